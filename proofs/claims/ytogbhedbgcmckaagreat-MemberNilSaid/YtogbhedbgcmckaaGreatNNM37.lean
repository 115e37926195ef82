/- MemberNil's walk. (Written by mknil.py.) -/
import Derived.Test.YtogbhedbgcmckaaGreatNNM01
import Derived.Test.YtogbhedbgcmckaaGreatNNM36
import Derived.Test.YtogbhedbgcmckaaGreatRows
import Derived.WalkKit
import Derived.ProofKit
import Derived.OpenShut
import Derived.Carry
set_option linter.unusedVariables false
set_option linter.unusedSimpArgs false
set_option maxRecDepth 100000
set_option maxHeartbeats 6400000
namespace Go.Proofs.YtogbhedbgcmckaaGreat
open Go.RowKit
def nm0 : Dsk := ⟨1000,[],false,0,false⟩
def nm1 : (Dsk × Nat) × Held := nm0.openV
theorem nm_1 : nm1.1.2 = 0 /\ nm1.2.h.t = 0 /\ nm1.2.h.v = -1 /\ nm1.2.s.i = 0 /\ nm1.2.s.t = 0 /\ nm1.2.s.d.length = 0 /\ nm1.2.l.length = 0 /\ (nm0.told nWal).1.length <= 20000 := by decide +kernel
theorem nm_2 : ((nm1.1.1.fuse 0).1.saveV ⟨0,-1⟩ ⟨1,0⟩ [⟨1,1,[]⟩]).1.2 = 5 := by decide +kernel
theorem qjq (a b : Int) (w : World) : Calls Tryz.prog 11 #[.int .i64 a, .int .i64 b, .pointer none] w fun e w' => e = .returned (.tuple #[.pointer none, .agg #[.int .i64 0, .int .i64 0, .slice none 0 0], .int .i64 1]) /\ Below w.heap.size w w' := by
 obtain ⟨W1,hW1⟩ := exq (w.alloc (.cells #[.int .i64 0, .int .i64 0, .slice none 0 0] 25))
 have hb1 : Below w.heap.size w W1 := by rw [<- hW1]; exact blq.alloc nlq _
 have hr1 : W1.heap[w.heap.size]? = some (.cells #[.int .i64 0, .int .i64 0, .slice none 0 0] 25) := by rw [<- hW1]; exact heap_alloc_new w _
 have hO := qiI W1;have HH := hdq3 hb1 hr1 hW1;clear hb1 hr1 hW1
 go_enter Tryz.func11,Tryz.ntmps11
 go_upto_region 1 with fail
 rw [HH.out.2.2]
 go_wp2_with fail
 refine hO.mono ?_;rintro e w2 ⟨rfl,hb2⟩;obtain ⟨W3,hW3⟩ := exq ((w2.alloc (.cells #[.int .i64 0, .int .i64 0] 54)).alloc (.cells #[.int .i64 0, .int .i64 0, .slice none 0 0] 25))
 have hb3 : Below w2.heap.size w2 W3 := by rw [<- hW3]; exact (blq.alloc nlq _).alloc (by simp) _
 have hb13 := hb2.trans (hb3.mono hb2.size);have hr3 := (hb13.block _ (hlt HH.out.2.1)).trans HH.out.2.1;have hb := HH.out.1.trans (hb13.mono HH.out.1.size);obtain ⟨_,f0,f1,f2⟩ := row3 hr3;have h3 := qf5 (a := .int .i64 0) (b := .int .i64 0) (c := .slice none 0 0) hr3;have HE := hdq4 h3.1 hb h3.2.1 hW3;clear hO hb2 hb3 hb13 hr3 hb h3 hW3
 go_upto_region 2 with fail
 rw [HE.out.2.2.2];go_wp2;refine bodyPost_ret (qaP (n := w.heap.size) rfl rfl HE.out.1 Tryz.underlying25 rfl (by kernel_rfl)) rfl ?_;exact ⟨rfl,HE.out.2.1.trans HE.out.2.2.1⟩
theorem memberNil_walk (k : Int) (m : Msg) (A : Option Addr) (cA : Nat) (E : Option Addr) (cE : Nat) (D : Option Addr) (dn dc : Nat) (i : Int) (KA : Option Addr) (kn kc : Nat) (keep : Int) (w : World) (hM : qC w (· < w.heap.size) m A cA E cE) (hdc : dc <= maxLen) (hdn : dn <= dc) (hkc : kc <= maxLen) (hkn : kn <= kc) (hd : ∀ e ∈ m.es,e.d.length <= 140737488355328) (hkp : -9223372036854775808 <= keep /\ keep <= 9223372036854775807) :
 Calls Tryz.prog 3 #[act13V k m A cA E cE D dn dc i KA kn kc, .int .i64 keep] w fun e w' => e = .returned (.bool true) /\ Below w.heap.size w w' := by
 have hdn2 : dn <= maxLen := Nat.le_trans hdn hdc;have hkn2 : kn <= maxLen := Nat.le_trans hkn hkc;clear hdn hdc hkn hkc
 have hF := fun W (hW : Below w.heap.size w W) g T o hrow => qjp k m A cA E cE D dn dc i KA kn kc g T o _ W hrow (hM.below hW nlq) hd hdn2 hkn2
 clear hM hd hdn2 hkn2;obtain ⟨mk,mf,mo,mt,mi,ml,mc,mx,mb,es,⟨si,st,sd⟩⟩ := m;dsimp only [act13V,msgV] at hF ⊢;generalize es.length = en at *;generalize sd.length = sn at *
 -- the disk that the law makes,as a value
 obtain ⟨a1,a2,a3,a4,a5,a6,a7,a8⟩ := nm_1;have a9 := nm_2
 have hO := fun W w1 d (hd : Dk w1 d nm0 (· < W.heap.size)) (hb : Below W.heap.size W w1) => by
  obtain ⟨h1,h2,h3,h4⟩ := qgU (show nm0.openV = ((nm1.1.1,nm1.1.2),nm1.2) from rfl) a1 ⟨a2,a3⟩ ⟨a4,a5,a6⟩ a7;exact qeF hd a8 nm1.2 h1 h2 h3 h4 hb (fun k hk => hk)
 clear a1 a2 a3 a4 a5 a6 a7 a8;generalize nm1.1.1 = D1 at *;have HA := hdq2 a9 hkp;clear a9 hkp;obtain ⟨W0,hW0⟩ := exq (w.alloc (.cells #[.int .u8 k, .int .i64 mk, .int .i64 mf, .int .i64 mo, .int .i64 mt, .int .i64 mi, .int .i64 ml, .int .i64 mc, .int .i64 mx, .bool mb, .slice A en cA, .int .i64 si, .int .i64 st, .slice E sn cE, .slice D dn dc, .int .i64 i, .slice KA kn kc] 30))
 have hb : Below w.heap.size w W0 := by rw [<- hW0]; exact blq.alloc nlq _
 have hr : W0.heap[w.heap.size]? = some (.cells #[.int .u8 k, .int .i64 mk, .int .i64 mf, .int .i64 mo, .int .i64 mt, .int .i64 mi, .int .i64 ml, .int .i64 mc, .int .i64 mx, .bool mb, .slice A en cA, .int .i64 si, .int .i64 st, .slice E sn cE, .slice D dn dc, .int .i64 i, .slice KA kn kc] 30) := by rw [<- hW0]; exact heap_alloc_new w _
 have H0 := Lib.hid hW0;clear hW0;have HO := Lib.hid hO;clear hO
 go_enter Tryz.func3,Tryz.ntmps3
 try dsimp only [List.append]
 go_upto_region 1 with fail
 rw [H0.out]
 go_wp2_with fail
 refine (qdl _).mono ?_;rintro e w1 ⟨rfl,hb1⟩
 replace hb := hb.trans (hb1.mono hb.size)
 replace hr := (hb1.block _ (hlt hr)).trans hr
 obtain ⟨x0,x1,x2,x3,x4,x5,x6,x7,x8,x9,x10,x11,x12,x13,x14,x15,x16⟩ := qcx hr;clear hb1
 go_wp2_with fail
 refine (hF _ (hb.alloc hb.size _) w1.heap.size _ _ (heap_alloc_new w1 _)).mono ?_;rintro e w2 ⟨b,rfl,hb2⟩;have hlt1 := hlt hr;have hbw2 := (hb.alloc hb.size (.cells #[.int .u8 k, .int .i64 mk, .int .i64 mf, .int .i64 mo, .int .i64 mt, .int .i64 mi, .int .i64 ml, .int .i64 mc, .int .i64 mx, .bool mb, .slice A en cA, .int .i64 si, .int .i64 st, .slice E sn cE, .slice D dn dc, .int .i64 i, .slice KA kn kc] 30)).trans (hb2.mono (by have := hb.size; simp; omega))
 replace hr := (hb2.block _ (by simp; omega)).trans ((Below.heap_alloc _ _ _ hlt1).trans hr)
 replace hb := hbw2
 clear x0 x1 x2 x3 x4 x5 x6 x7 x8 x9 x10 x11 x12 x13 x14 x15 x16 hF hb2 hlt1 hbw2
 cases b with
 | false =>
   go_wp2_with fail
   refine (qdl _).mono ?_;rintro e w3 ⟨rfl,hb3⟩;go_wp2;go_ret;exact ⟨rfl,hb.trans (hb3.mono hb.size)⟩
 | true =>
 go_wp2_with fail
 refine (qjj).mono ?_;rintro e w3 ⟨rfl,hb1⟩
 replace hb := hb.trans (hb1.mono hb.size)
 replace hr := (hb1.block _ (hlt hr)).trans hr
 clear hb1;obtain ⟨w4,hW1,hb1⟩ : ∃ W,w3.alloc (.cells #[.slice none 0 0, .int .i64 0, .int .i64 0, .slice none 0 0, .slice none 0 0, .slice none 0 0] 38) = W /\ Below w3.heap.size w3 W := ⟨_,rfl,blq.alloc nlq _⟩
 replace hb := hb.trans (hb1.mono hb.size)
 replace hr := (hb1.block _ (hlt hr)).trans hr
 have HW := Lib.hid hW1;clear hb1 hW1
 go_upto_region 5 with fail
 rw [HW.out];clear HW;obtain ⟨x0,x1,x2,x3,x4,x5,x6,x7,x8,x9,x10,x11,x12,x13,x14,x15,x16⟩ := qcx hr
 go_wp2_with fail
 refine (qku _ _ _ _ _ _ _ _ _ _ _ _ _ _ _ _ _ _).mono ?_;rintro e w5 ⟨rfl,hb1⟩
 replace hb := hb.trans (hb1.mono hb.size)
 replace hr := (hb1.block _ (hlt hr)).trans hr
 clear hb1;clear x0 x1 x2 x3 x4 x5 x6 x7 x8 x9 x10 x11 x12 x13 x14 x15 x16
 go_wp2_with fail
 refine (qjk _ _ _ _ _ _ _ _ _ _ _ _ _ _ _ _ _).mono ?_;rintro e w6 ⟨rfl,hb1⟩
 replace hb := hb.trans (hb1.mono hb.size)
 replace hr := (hb1.block _ (hlt hr)).trans hr
 clear hb1;obtain ⟨w7,hW1,hb1⟩ : ∃ W,w6.alloc (.cells #[.slice none 0 0, .int .i64 0, .int .i64 0, .slice none 0 0, .slice none 0 0, .slice none 0 0] 38) = W /\ Below w6.heap.size w6 W := ⟨_,rfl,blq.alloc nlq _⟩
 replace hb := hb.trans (hb1.mono hb.size)
 replace hr := (hb1.block _ (hlt hr)).trans hr
 have HW := Lib.hid hW1;clear hb1 hW1
 go_upto_region 6 with fail
 rw [HW.out];clear HW;obtain ⟨x0,x1,x2,x3,x4,x5,x6,x7,x8,x9,x10,x11,x12,x13,x14,x15,x16⟩ := qcx hr
 go_wp2_with fail
 refine (qf2 _ _ _).mono ?_;rintro e w8 ⟨rfl,hb1⟩
 replace hb := hb.trans (hb1.mono hb.size)
 replace hr := (hb1.block _ (hlt hr)).trans hr
 clear hb1;obtain ⟨w9,hW1,hb1⟩ : ∃ W,w8.alloc (.cells #[.slice none 0 0, .int .i64 0, .int .i64 0, .slice none 0 0, .slice none 0 0, .slice none 0 0] 38) = W /\ Below w8.heap.size w8 W := ⟨_,rfl,blq.alloc nlq _⟩
 replace hb := hb.trans (hb1.mono hb.size)
 replace hr := (hb1.block _ (hlt hr)).trans hr
 have HW := Lib.hid hW1;clear hb1 hW1
 go_upto_region 7 with fail
 rw [HW.out];clear HW;clear x0 x1 x2 x3 x4 x5 x6 x7 x8 x9 x10 x11 x12 x13 x14 x15 x16
 go_wp2_with fail
 refine (qjl).mono ?_;rintro e w10 ⟨rfl,hb1⟩
 replace hb := hb.trans (hb1.mono hb.size)
 replace hr := (hb1.block _ (hlt hr)).trans hr
 clear hb1;obtain ⟨w11,hW1,hb1⟩ : ∃ W,w10.alloc (.cells #[.slice none 0 0, .int .i64 0, .int .i64 0, .slice none 0 0, .slice none 0 0, .slice none 0 0] 38) = W /\ Below w10.heap.size w10 W := ⟨_,rfl,blq.alloc nlq _⟩
 replace hb := hb.trans (hb1.mono hb.size)
 replace hr := (hb1.block _ (hlt hr)).trans hr
 have HW := Lib.hid hW1;clear hb1 hW1
 go_upto_region 8 with fail
 rw [HW.out];clear HW
 go_wp2_with fail
 refine (qjq _ _ _).mono ?_;rintro e w12 ⟨rfl,hb1⟩
 replace hb := hb.trans (hb1.mono hb.size)
 replace hr := (hb1.block _ (hlt hr)).trans hr
 clear hb1;obtain ⟨w13,hW1,hb1⟩ : ∃ W,w12.alloc (.cells #[.int .i64 0, .int .i64 0, .slice none 0 0] 25) = W /\ Below w12.heap.size w12 W := ⟨_,rfl,blq.alloc nlq _⟩
 replace hb := hb.trans (hb1.mono hb.size)
 replace hr := (hb1.block _ (hlt hr)).trans hr
 have HW := Lib.hid hW1;clear hb1 hW1
 go_upto_region 9 with fail
 rw [HW.out];clear HW;obtain ⟨x0,x1,x2,x3,x4,x5,x6,x7,x8,x9,x10,x11,x12,x13,x14,x15,x16⟩ := qcx hr;have hf0 := qeB
 go_wp2_with fail
 refine (qf3 _ _ _ _).mono ?_;rintro e w14 ⟨rfl,rfl⟩
 go_wp2_with fail
 refine (qf4 _).mono ?_;rintro e w15 ⟨rfl,rfl⟩
 go_wp2_with fail
 refine (qjm _).mono ?_;rintro e w16 ⟨rfl,rfl⟩
 go_wp2_with fail
 refine (qh1 _).mono ?_;rintro e w17 ⟨rfl,hb1⟩
 replace hb := hb.trans (hb1.mono hb.size)
 replace hr := (hb1.block _ (hlt hr)).trans hr
 clear hb1;clear x0 x1 x2 x3 x4 x5 x6 x7 x8 x9 x10 x11 x12 x13 x14 x15 x16
 go_upto_region 11 with fail
 have HB := hdq2 hb hr;clear hb hr
 go_wp2_with fail
 refine (qgL w17 (· < w17.heap.size) 1000 (fun k hk => hk) (by omega) (by omega)).mono ?_;rintro e v1 ⟨d,rfl,hD1,hb1⟩;have hO1 := HO.out w17 v1 d hD1 hb1;clear hD1 hb1
 go_wp2_with fail
 refine hO1.mono ?_;rintro e v2 ⟨m,p,v,j,n,Bq,c,Zv,Zn,q,s,xs,K,rfl,hM,hn,_,_⟩;obtain ⟨v3,hW1⟩ : ∃ W,v2.alloc (.cells #[.int .i64 0, .int .i64 0, .slice Bq 0 c] 25) = W := ⟨_,rfl⟩;have hM3 := hM.below (w' := v3) (by rw [<- hW1]; exact blq.alloc nlq _);have HW := Lib.hid hW1;clear hO1 hM hW1
 go_upto_region 13 with fail
 rw [HW.out];clear HW;have hFu := qjR v3 d D1 _ hM3.vt.lg.dk 0 (by omega);have H3 := hdq2 hM3 hn;clear hM3 hn
 go_wp2_with fail
 refine hFu.mono ?_;rintro e v4 ⟨rfl,hDd⟩;have hM4 := H3.out.1.disk hDd;have H4 := Lib.hid hM4;clear hFu hDd hM4;generalize (D1.fuse 0).1 = D2 at *
 go_wp2_with fail
 go_loopw [125] (fun v125 wr => ∃ k : Nat,k <= 5 /\ v125 = .int .i64 (k : Int) /\ ∃ n' Zv Zn q s xs K,Mb w17 wr m p v j d (oneN k) D2 ⟨0,-1⟩ n' 0 false Zv Zn q s xs K /\ 0 <= n' /\ n' <= 20001 + (k : Int)) (fun v125 _ => 5 - (intOf v125).toNat)
 case atStart => exact ⟨0,Nat.zero_le _,rfl,n,_,_,q,s,xs,K,H4.out,H3.out.2.1,by have := H3.out.2.2; omega⟩
 case round =>
  obtain ⟨k,hk,rfl,n1,Zv1,Zn1,q1,s1,xs1,K1,hM,hn1,hn2⟩ := hrel
  by_cases h5 : k < 5
  · have e1 : decide ((k : Int) < 5) = true := decide_eq_true (by omega);have hT := qeE k h5 hM ⟨hn1,by omega⟩;clear hM
    go_wp2_with fail
    refine hT.mono ?_;rintro e u1 ⟨MA,mc,DA,dc,EA,ec,TA,tc,a,b,c3,n3,Zv3,Zn3,q3,s3,xs3,K3,rfl,hM3,hn3,_,_,_⟩;have H5 := hdq2 (hM3.below (w' := u1.alloc (.cells #[.slice MA a mc, .int .i64 0, .int .i64 0, .slice DA 0 dc, .slice EA 0 ec, .slice TA b tc] 38)) (blq.alloc nlq _)) hn3;clear hT hM3 hn3;go_wp2
    go_roundw
    case rel => exact ⟨k + 1,by omega,by go_num,n3,_,_,q3,s3,xs3,K3,H5.out.1,H5.out.2.1,by have := H5.out.2.2; omega⟩
    case measure =>
     simp [intOf]
     omega
  · obtain rfl : k = 5 := by omega
    have hT := qh2 hM ⟨hn1,by omega⟩ HA.out.1;clear hM
    go_wp2_with fail
    refine hT.mono ?_;rintro e u1 ⟨D',was',n3,Zv3,Zn3,q3,s3,xs3,K3,rfl,hM3,_,_⟩;have H5 := Lib.hid hM3;clear hT hM3
    go_upto_region 21 with fail
    have hM6 := H5.out.below (w' := u1.alloc (.cells #[.int .i64 keep] 3)) (blq.alloc nlq _)
    have hRI : RI (u1.alloc (.cells #[.int .i64 keep] 3)) (some ⟨u1.heap.size,0,none⟩) 1 (fun _ => keep) := ⟨fun _ _ => HA.out.2,fun _ => ⟨u1.heap.size,0,rfl,by simp,fun j hj => by
     obtain rfl : j = 0 := by omega
     exact qe (heap_alloc_new u1 _) 0 _ rfl⟩⟩
    have hRs := qgi _ d D' _ hM6.vt.lg.dk (some ⟨u1.heap.size,0,none⟩) 1 1 (fun _ => keep) hRI (by omega) (by omega) (fun _ a e => by injection e with e; subst e; exact fun e => by have := H5.out.vt.lg.dk.dk.own.2; have e : u1.heap.size = d := e; omega);have H6 := Lib.hid hM6;clear hM6 hRI
    go_wp2_with fail
    refine hRs.mono ?_;rintro e u2 ⟨rfl,hDd⟩;have hM7 := H6.out.disk hDd;have hTg := qhY hM7.row;have H7 := Lib.hid hM7;clear hRs hDd hM7
    go_wp2_with fail
    refine hTg.mono ?_;rintro e u3 ⟨rfl,hb3⟩;have hM8 := H7.out.below hb3;have hr := (hM8.low.block _ (hlt HB.out.2)).trans HB.out.2;obtain ⟨x0,x1,x2,x3,x4,x5,x6,x7,x8,x9,x10,x11,x12,x13,x14,x15,x16⟩ := qcx hr;have H8 := Lib.hid hM8;clear hTg hb3 hM8 hr
    go_wp2_with fail
    refine (qku _ _ _ _ _ _ _ _ _ _ _ _ _ _ _ _ _ _).mono ?_;rintro e u4 ⟨rfl,hb4⟩;have hM9 := H8.out.below hb4
    have hSg := fun mk mf mo mt mi ml mc mx mb A an ac si st E en ec => qhZ mk mf mo mt mi ml mc mx mb A an ac si st E en ec hM9.row
    have H9 := Lib.hid hM9;clear x0 x1 x2 x3 x4 x5 x6 x7 x8 x9 x10 x11 x12 x13 x14 x15 x16;clear hb4 hM9
    go_wp2_with fail
    refine (hSg _ _ _ _ _ _ _ _ _ _ _ _ _ _ _ _ _).mono ?_;rintro e u5 ⟨rfl,hb5⟩;have hM10 := H9.out.below hb5;have hG := qkn hM10.row;have hCg := qeR none 0 0 hM10.row;have HE := Lib.hid (HB.out.1.trans (hM10.low.mono HB.out.1.size));clear hSg hb5 hM10
    go_wp2_with fail
    refine hG.mono ?_;rintro e u6 ⟨rfl,rfl⟩
    go_wp2_with fail
    refine hCg.mono ?_;rintro e u7 ⟨rfl,rfl⟩;go_wp2;go_ret;exact ⟨rfl,HE.out⟩
end Go.Proofs.YtogbhedbgcmckaaGreat
set_option linter.unusedVariables false
set_option linter.unusedSimpArgs false
set_option maxRecDepth 100000
set_option maxHeartbeats 200000
namespace Go.Proofs.YtogbhedbgcmckaaGreat
open Go.ChangeShapes Go.WideShapes Go.ChangeAt Go.RowKit
section
variable {H : Type} {enc : TypeId × Value → H} {P : Program}
theorem qeG (hl : laidOutB P = true) {W W' : World} {sp : Nat -> Bool} : ∀ {ts : List TypeId} {vs : List Value} {ds : List (DataW H)} {ps : List MemPlace},(∀ t ∈ ts,P.readableRec t = true /\ t < P.types.size) →
 DataW.TrodAll enc P W 0 (fun _ => true) true ts vs ds ps -> (∀ x ∈ ps,W.sameAt W' x) -> (∀ x ∈ ps,sp x.block = true) -> DataW.TrodAll enc P W' 0 sp true ts vs ds ps
 | [],[],[],_,_,h,_,_ => h
 | t :: _,_ :: _,_ :: _,_,hT,⟨p,q,h1,h2,e⟩,hs,hp =>
   ⟨p,q,WideElems.Trod_stays hl (hT t List.mem_cons_self).1 (hT t List.mem_cons_self).2 h1 (fun x hx => hs x (by rw [e]; exact List.mem_append_left _ hx)) (fun x hx => hp x (by rw [e]; exact List.mem_append_left _ hx)),
     qeG hl (fun t ht => hT t (List.mem_cons_of_mem _ ht)) h2 (fun x hx => hs x (by rw [e]; exact List.mem_append_right _ hx)) (fun x hx => hp x (by rw [e]; exact List.mem_append_right _ hx)),e⟩
theorem law_end (hl : laidOutB P = true) {f : Func} {s : ChangeSpec} {T : TypeId} {W W' : World} {args : Array Value} {ds gs : List (DataW H)} {before : List MemPlace}
 (hT : ∀ t ∈ f.params.toList,P.readableRec t = true /\ t < P.types.size) (hvars : s.vars = []) (hres : f.resultTypes = #[T]) (hb : P.underlying T = some .bool)
 (hW : DataW.Whole enc P f.params.toList s.vars false W args.toList ds gs before)
 (hr : (s.fn H (ds ++ gs)).results = [.lit (.bool true)]) (ha : (s.fn H (ds ++ gs)).args = ds) (hv : (s.fn H (ds ++ gs)).vars = [])
 (hbel : Below W.heap.size W W') : s.post enc P f false true false false W args (.bool true) W' := by
 have hW' := hW;obtain ⟨p,q,hA,hV,hps,hfz,_⟩ := hW;rw [hvars] at hV;obtain ⟨rfl,rfl⟩ := trodVars_none hV;rw [List.append_nil] at hps;subst hps
 have hlt : ∀ x ∈ before,x.block < W.heap.size := fun x hx => hW'.lt x hx
 have harg : ∀ sp : Nat -> Bool,(∀ x ∈ before,sp x.block = true) -> DataW.TrodAll enc P W' 0 sp true f.params.toList args.toList (s.fn H (ds ++ [])).args before := fun sp hsp => by
  rw [ha];exact qeG hl hT hA (fun x hx => hbel.same (hlt x hx)) hsp
 have hvar : ∀ sp : Nat -> Bool,DataW.TrodVars enc P W' sp s.vars (s.fn H (ds ++ [])).vars [] := fun sp => by
  rw [hvars,hv];exact rfl
 have hresult : ∀ (b : Nat) (sp : Nat -> Bool) (hd : Bool),DataW.TrodAll enc P W' b sp hd f.resultTypes.toList ((Value.bool true).resultList f.resultTypes.size) (s.fn H (ds ++ [])).results [] := fun b sp hd => by
  rw [hr,hres];exact trodAll_cons_mk (shut_bool hb _) trodAll_mk0
 refine ⟨ds,[],before,[],before,[],hW',hresult _ _ _,harg _ (fun x hx => by simpa using hlt x hx),hvar _,World.keptBut_mono (fun x hx => ⟨hx,Or.inr (Or.inl hx)⟩) (hbel.frame (· ∈ before)),fun h => by cases h⟩
end
end Go.Proofs.YtogbhedbgcmckaaGreat
