/- VaultPlays' walk. (Written by mkplw.py.) -/
import Derived.Test.YtmeoooojmhhahaaGreatTVauPlC
set_option linter.unusedVariables false
set_option linter.unusedSimpArgs false
set_option maxRecDepth 100000
set_option maxHeartbeats 60000000
namespace Go.Proofs.YtmeoooojmhhahaaGreat.vauPlays
open Go.ChangeShapes Go.WideShapes Go.ChangeAt Go.RowKit Go.Proofs.YtmeoooojmhhahaaGreat
theorem ql6 (room : Nat) (hroom : room <= 65535) (A0 : Option Addr) (len0 cap0 : Nat) (a : Nat -> VAct) (W : World) (h1 : qbC W A0 len0 a) (hm : len0 <= maxLen) (hd : ∀ j,j < len0 -> ∀ e ∈ (a j).l,e.d.length <= 140737488355328) (hfew : few10B a len0 40 = false) :
 Calls Tryz.prog 3 #[.int .u16 (room : Int), .slice A0 len0 cap0] W fun e w' => e = .returned (.bool true) /\ Below W.heap.size W w' := by
 have hF10 := fun w1 (hb : Below W.heap.size W w1) => qgy A0 len0 cap0 a w1 (h1.below hb) hm hd
 rw [hfew] at hF10
 clear hfew hd h1
 go_enter Tryz.func3,Tryz.ntmps3
 go_wp2_with fail
 refine (qc7 _).mono ?_
 rintro e w1 ⟨rfl,hb1⟩
 have hF1 := hF10 w1 hb1
 go_wp2_with fail
 refine hF1.mono ?_
 rintro e w2 ⟨rfl,hb2⟩
 have hbw := hb1.trans (hb2.mono hb1.size)
 clear hF1 hF10 hb1 hb2
 go_wp2_with fail
 refine (qc7 _).mono ?_
 rintro e w3 ⟨rfl,hb3⟩
 go_wp2
 go_ret
 exact ⟨rfl,hbw.trans (hb3.mono hbw.size)⟩
theorem qlC (room : Nat) (hroom : room <= 65535) (A0 : Option Addr) (len0 cap0 : Nat) (a : Nat -> VAct) (W : World) (h1 : qbC W A0 len0 a) (hm : len0 <= maxLen) (hd : ∀ j,j < len0 -> ∀ e ∈ (a j).l,e.d.length <= 140737488355328) (hfew : few10B a len0 40 = true) :
 Calls Tryz.prog 3 #[.int .u16 (room : Int), .slice A0 len0 cap0] W fun e w' => e = .returned (.bool true) /\ Below W.heap.size W w' := by
 have hF10 := fun w1 (hb : Below W.heap.size W w1) => qgy A0 len0 cap0 a w1 (h1.below hb) hm hd
 rw [hfew] at hF10
 obtain ⟨hlen,hfit0⟩ := qkE hfew
 have hcv : IntKind.i64.wrap (room : Int) = (room : Int) := IntWalk.i64_in _ (by omega)
 clear hfew hd
 go_enter Tryz.func3,Tryz.ntmps3
 go_wp2_with fail
 refine (qc7 _).mono ?_
 rintro e w1 ⟨rfl,hb1⟩
 have hF1 := hF10 w1 hb1
 go_wp2_with fail
 refine hF1.mono ?_
 rintro e w2 ⟨rfl,hb2⟩
 have hbw := hb1.trans (hb2.mono hb1.size)
 clear hF1 hF10 hb1 hb2
 have h2 := h1.below hbw
 have hN := qiv w2 (· < w2.heap.size) (room : Int) (fun k hk => hk) (by omega) (by omega)
 clear h1
 go_wp2_with fail
 refine hN.mono ?_
 rintro e w3 ⟨d,rfl,hD3,hb3⟩
 obtain ⟨h0,s0,hv0⟩ : ∃ h0 s0,Dsk.openV ⟨(room : Int),[],false,0,false⟩ = ((⟨(room : Int),[],false,0,false⟩,0),⟨h0,s0,[]⟩) := ⟨_,_,qkD _⟩
 have hGood := hD3.good
 have hOp := qcW w3 d ⟨(room : Int),[],false,0,false⟩ _ hD3 (qgx hGood (by show (room : Int) <= 65535; omega) _)
 clear hN
 go_wp2_with fail
 refine hOp.mono ?_
 intro e w4 hop
 obtain ⟨v,j,n,Q,Bs,bc,A4,c4,rfl,ho4⟩ := qat.ok hop hv0
 have C4 := Ctx.opd ho4 hb3 (fun k hk => hk)
 have hn := ho4.num
 have hoE := ho4.ents.ents
 have hol := ho4.lies
 dsimp only at hoE hol C4
 clear hop hOp ho4 hD3 hb3
 obtain ⟨h0t,h0v⟩ := h0
 obtain ⟨s0i,s0t,s0d⟩ := s0
 dsimp only at hoE hol C4
 go_upto_region 5 with fail
 have ha6 : Below w4.heap.size w4 ((w4.alloc (.cells #[.int .i64 h0t, .int .i64 h0v] 32)).alloc (.cells #[.int .i64 s0i, .int .i64 s0t, .slice Bs s0d.length bc] 35)) := (blq.alloc nlq _).alloc (by simp) _
 have r8 : ((w4.alloc (.cells #[.int .i64 h0t, .int .i64 h0v] 32)).alloc (.cells #[.int .i64 s0i, .int .i64 s0t, .slice Bs s0d.length bc] 35)).heap[w4.heap.size]? = some (.cells #[.int .i64 h0t, .int .i64 h0v] 32) := (Below.heap_alloc _ _ _ (by simp)).trans (heap_alloc_new _ _)
 have r9 : ((w4.alloc (.cells #[.int .i64 h0t, .int .i64 h0v] 32)).alloc (.cells #[.int .i64 s0i, .int .i64 s0t, .slice Bs s0d.length bc] 35)).heap[w4.heap.size + 1]? = some (.cells #[.int .i64 s0i, .int .i64 s0t, .slice Bs s0d.length bc] 35) := heap_alloc2_new _ _ _
 have C6 := C4.wide ha6
 have hoE6 := hoE.below ha6 nlq
 have hol6 := hol.below ha6 nlq
 obtain ⟨a8,hP8⟩ : ∃ a8,a8 = w4.heap.size := ⟨_,rfl⟩
 obtain ⟨Q6,hQ6⟩ : ∃ Q6 : Nat -> Prop,Q6 = (fun k => Q k \/ w4.heap.size <= k /\ k < ((w4.alloc (.cells #[.int .i64 h0t, .int .i64 h0v] 32)).alloc (.cells #[.int .i64 s0i, .int .i64 s0t, .slice Bs s0d.length bc] 35)).heap.size) := ⟨_,rfl⟩
 rw [<- hQ6] at C6
 clear hoE hol C4 hQ6
 generalize ((w4.alloc (.cells #[.int .i64 h0t, .int .i64 h0v] 32)).alloc (.cells #[.int .i64 s0i, .int .i64 s0t, .slice Bs s0d.length bc] 35)) = w6 at *
 rw [<- hP8] at r8 r9 ⊢
 clear ha6 hP8
 have hRf := qfJ none 0 ⟨(room : Int),[],false,0,false⟩ w6 (RF.nil _) hGood (by show (room : Int) <= 100000; omega)
 unfold qdC at hRf
 rw [hv0] at hRf
 go_wp2_with fail
 refine hRf.mono ?_
 rintro e w7 ⟨A7,cap7,nm7,m,hh7,Bs7,bn7,bc7,E7,el7,ec7,rfl,hg7,hl7,hE7,h70⟩
 obtain ⟨rfl,rfl,hm0,hm1⟩ := h70 (by first | rfl | trivial)
 try dsimp only at hg7 hl7 hE7 hm0 hm1
 obtain rfl := hl7.1
 obtain rfl := hE7.1
 have C7 := C6.wide hg7.1
 have r8 := (hg7.1.block _ (hlt r8)).trans r8
 have r9 := (hg7.1.block _ (hlt r9)).trans r9
 have hoE7 := hoE6.below hg7.1 nlq
 have hol7 := hol6.below hg7.1 nlq
 have hj6 := C6.vt.lg.lt
 have hv6 := C6.vt.lt
 clear hRf hoE6 hol6 h70
 go_upto_region 6 with fail
 have ha8 : Below w7.heap.size w7 ((w7.alloc (.cells #[.int .i64 (room : Int), .slice A7 0 cap7, .bool false, .int .i64 0, .bool false, .string nWal, .int .i64 m, .int .i64 h0t, .int .i64 h0v] 45)).alloc (.cells #[.int .i64 h0t, .int .i64 h0v, .int .i64 s0i, .int .i64 s0t, .slice Bs7 s0d.length bc7, .slice E7 0 ec7] 47)) := (blq.alloc nlq _).alloc (by simp) _
 have rB : ((w7.alloc (.cells #[.int .i64 (room : Int), .slice A7 0 cap7, .bool false, .int .i64 0, .bool false, .string nWal, .int .i64 m, .int .i64 h0t, .int .i64 h0v] 45)).alloc (.cells #[.int .i64 h0t, .int .i64 h0v, .int .i64 s0i, .int .i64 s0t, .slice Bs7 s0d.length bc7, .slice E7 0 ec7] 47)).heap[w7.heap.size]? = some (.cells (vauC A7 cap7 ⟨(room : Int),[],false,0,false⟩ m ⟨h0t,h0v⟩) 45) := (Below.heap_alloc _ _ _ (by simp)).trans (heap_alloc_new _ _)
 have rH : ((w7.alloc (.cells #[.int .i64 (room : Int), .slice A7 0 cap7, .bool false, .int .i64 0, .bool false, .string nWal, .int .i64 m, .int .i64 h0t, .int .i64 h0v] 45)).alloc (.cells #[.int .i64 h0t, .int .i64 h0v, .int .i64 s0i, .int .i64 s0t, .slice Bs7 s0d.length bc7, .slice E7 0 ec7] 47)).heap[w7.heap.size + 1]? = some (.cells #[.int .i64 h0t, .int .i64 h0v, .int .i64 s0i, .int .i64 s0t, .slice Bs7 s0d.length bc7, .slice E7 0 ec7] 47) := heap_alloc2_new _ _ _
 have hsz := hg7.1.size
 have P8 : PAt w2 ((w7.alloc (.cells #[.int .i64 (room : Int), .slice A7 0 cap7, .bool false, .int .i64 0, .bool false, .string nWal, .int .i64 m, .int .i64 h0t, .int .i64 h0v] 45)).alloc (.cells #[.int .i64 h0t, .int .i64 h0v, .int .i64 s0i, .int .i64 s0t, .slice Bs7 s0d.length bc7, .slice E7 0 ec7] 47)) v j d ⟨(room : Int),[],false,0,false⟩ ⟨h0t,h0v⟩ n w7.heap.size A7 cap7 ⟨(room : Int),[],false,0,false⟩ ⟨h0t,h0v⟩ m _ :=
  ⟨C7.wide ha8,⟨Nat.zero_le _,fun h => absurd h (by simp)⟩,fun h => absurd h (by simp),rB,⟨.inr ⟨nlq,hlt rB⟩,by omega,by omega⟩,C7.low.size⟩
 have G8 : Goes w2 ((w7.alloc (.cells #[.int .i64 (room : Int), .slice A7 0 cap7, .bool false, .int .i64 0, .bool false, .string nWal, .int .i64 m, .int .i64 h0t, .int .i64 h0v] 45)).alloc (.cells #[.int .i64 h0t, .int .i64 h0v, .int .i64 s0i, .int .i64 s0t, .slice Bs7 s0d.length bc7, .slice E7 0 ec7] 47)) (room : Int) 0 v j d ⟨(room : Int),[],false,0,false⟩ ⟨h0t,h0v⟩ n w7.heap.size A7 cap7 m _ := ⟨P8,hGood,rfl,by omega,by omega⟩
 have r8 := (ha8.block _ (hlt r8)).trans r8
 have r9 := (ha8.block _ (hlt r9)).trans r9
 have hH := qd7 ((w7.alloc (.cells #[.int .i64 (room : Int), .slice A7 0 cap7, .bool false, .int .i64 0, .bool false, .string nWal, .int .i64 m, .int .i64 h0t, .int .i64 h0v] 45)).alloc (.cells #[.int .i64 h0t, .int .i64 h0v, .int .i64 s0i, .int .i64 s0t, .slice Bs7 s0d.length bc7, .slice E7 0 ec7] 47)) ⟨h0t,h0v⟩ ⟨s0i,s0t,s0d⟩ Bs bc Bs7 bc7 _ _ A4 c4 E7 ec7 [] (hol7.below ha8 nlq) (hl7.below ha8 nlq) (hoE7.below ha8 nlq) (hE7.below ha8 nlq) (Nat.zero_le _)
 dsimp only at hH
 simp only [List.length_nil] at hH
 clear hg7 hl7 hE7 hoE7 hol7 C7 C6 ha8 hGood
 obtain ⟨B,hB⟩ : ∃ B,B = w7.heap.size := ⟨_,rfl⟩
 rw [<- hB] at G8 rB rH ⊢
 generalize ((w7.alloc (.cells #[.int .i64 (room : Int), .slice A7 0 cap7, .bool false, .int .i64 0, .bool false, .string nWal, .int .i64 m, .int .i64 h0t, .int .i64 h0v] 45)).alloc (.cells #[.int .i64 h0t, .int .i64 h0v, .int .i64 s0i, .int .i64 s0t, .slice Bs7 s0d.length bc7, .slice E7 0 ec7] 47)) = w8 at *
 clear hB
 obtain ⟨⟨p0,p1⟩,_⟩ := row2 r8
 obtain ⟨⟨q0,q1,q2⟩,_⟩ := row3 r9
 obtain ⟨⟨z0,z1,z2,z3,z4,z5⟩,_⟩ := row6 rH
 go_wp2_with fail
 refine hH.mono ?_
 rintro e w9 ⟨rfl,hb9⟩
 have G9 := G8.below hb9
 clear hH p0 p1 q0 q1 q2 z0 z1 z2 z3 z4 z5 G8 rB rH r8 r9 hb9
 have hlen' : (len0 : Int) <= 40 := by omega
 go_wp2
 go_loopg [72,7] len0 (fun g i x wr => ∃ (k v j : Nat) (D : Dsk) (was : Hd) (n : Int) (A : Option Addr) (cap : Nat) (m : Int) (Q : Nat -> Prop),k + g = len0 /\ i = .int .i64 (k : Int) /\ x = .pointer (some ⟨v,0,none⟩) /\ Goes w2 wr (room : Int) k v j d D was n B A cap m Q)
 case atStart => exact ⟨0,v,j,_,_,n,A7,cap7,m,_,by omega,rfl,rfl,G9⟩
 case round =>
  clear G9 hv0 r8 r9 hm0 hm1 hj6 hv6 hsz P8 hn
  obtain ⟨k,v,j,D,was,n,A,cap,m,Q,hkg,rfl,rfl,Gr⟩ := hrel
  by_cases hlt1 : k < len0
  · have hlti : ((k : Int) < (len0 : Int)) = True := eq_true (by omega)
    have hltd : decide (k < len0) = true := decide_eq_true hlt1
    have hbelow := Gr.pat.ctx.low
    obtain ⟨bq,off,rfl,hbq,-⟩ := h2.2 (by omega)
    have hinG := h2.1 k hlt1
    obtain ⟨bq',off',e',hbr,hc⟩ := (h2.below hbelow).2 (by omega)
    injection e' with e'
    injection e' with e1' e2'
    subst e1' e2'
    have hcc := hc k hlt1
    have hfit := hfit0 k hlt1
    have HG := Lib.hid hkg
    have HLT := Lib.hid hlt1
    have HB2 := Lib.hid hbw
    have HH2 := Lib.hid h2
    have HF0 := Lib.hid hfit0
    have hk40 : k < 40 := by omega
    clear hc hbelow hkg hbw h2 hfit0 hlt1
    generalize a k = x at hinG hcc hfit
    obtain ⟨xk,⟨ht,hv⟩,⟨si,st,sd⟩,sB,sc,eA,ecap,xl,xd⟩ := x
    have hxl := (qkr hfit.1).1
    have hxk := hinG.k
    dsimp only at hfit hxl hxk
    have e0 : wr.cell? ⟨bq,off + k * 13,none⟩ = some (.int .u8 (xk : Int)) := by have := hcc 0 _ rfl; rwa [Nat.add_zero] at this
    have e1 : wr.cell? ⟨bq,off + k * 13 + 1,none⟩ = some (.int .i64 ht) := hcc 1 _ rfl
    have e2 : wr.cell? ⟨bq,off + k * 13 + 2,none⟩ = some (.int .i64 hv) := hcc 2 _ rfl
    have e3 : wr.cell? ⟨bq,off + k * 13 + 3,none⟩ = some (.int .i64 si) := hcc 3 _ rfl
    have e4 : wr.cell? ⟨bq,off + k * 13 + 4,none⟩ = some (.int .i64 st) := hcc 4 _ rfl
    have e5 : wr.cell? ⟨bq,off + k * 13 + 5,none⟩ = some (.slice sB sd.length sc) := hcc 5 _ rfl
    have e6 : wr.cell? ⟨bq,off + k * 13 + 6,none⟩ = some (.slice eA xl.length ecap) := hcc 6 _ rfl
    have e7 : wr.cell? ⟨bq,off + k * 13 + 7,none⟩ = some (.int .u8 (xd.kind : Int)) := hcc 7 _ rfl
    have e8 : wr.cell? ⟨bq,off + k * 13 + 8,none⟩ = some (.string xd.name) := hcc 8 _ rfl
    have e9 : wr.cell? ⟨bq,off + k * 13 + 9,none⟩ = some (.string xd.to_) := hcc 9 _ rfl
    have e10 : wr.cell? ⟨bq,off + k * 13 + 10,none⟩ = some (.slice xd.bA xd.bL.length xd.bcap) := hcc 10 _ rfl
    have e11 : wr.cell? ⟨bq,off + k * 13 + 11,none⟩ = some (.int .i64 xd.n) := hcc 11 _ rfl
    have e12 : wr.cell? ⟨bq,off + k * 13 + 12,none⟩ = some (.slice xd.kA xd.klen xd.kcap) := hcc 12 _ rfl
    clear hcc
    by_cases hk0 : xk = 0
    · as_aux_lemma =>
       obtain rfl : xk = 0 := hk0
       have Gd := Gr.below blq.drew
       obtain ⟨wd,hwd⟩ : ∃ wd,wr.drew = wd := ⟨_,rfl⟩
       rw [hwd] at Gd
       have hPr := qd1 wd v j d D was n Q Gd.pat.ctx.vt ⟨ht,hv⟩ _ eA xl.length ecap xl (Gd.pat.ctx.ents hinG.ents) (by omega) (by have := Gd.n; omega)
       have hRf := fun (w3 : World) (R3 : RF w3 A cap D.l) (H3 : Below w2.heap.size w2 w3) => qfH A cap D m was ⟨ht,hv⟩ _ eA xl.length ecap xl w3 R3 Gd.good (hinG.ents.below H3 nlq) (by omega) (by have := Gd.m; omega)
       have hrm := qfL D was ⟨ht,hv⟩ xl
       unfold qbq at hPr
       unfold qbP at hRf
       generalize D.saveV was ⟨ht,hv⟩ xl = RS at *
       obtain ⟨⟨D2,ec⟩,was2⟩ := RS
       dsimp only at hPr hRf hrm
       have HRM := Lib.hid hrm
       clear hrm
       have hX : wd.cell? ⟨bq,off + k * 13 + 1,none⟩ = some (.int .i64 ht) /\ wd.cell? ⟨bq,off + k * 13 + 2,none⟩ = some (.int .i64 hv) /\ wd.cell? ⟨bq,off + k * 13 + 6,none⟩ = some (.slice eA xl.length ecap) := by
        rw [<- hwd]
        exact ⟨e1,e2,e6⟩
       obtain ⟨x1,x2,x6⟩ := hX
       clear Gr
       go_upto_region 19 with fail
       go_still_tail 11,(by kernel_rfl)
       change wpList _ _ _ _ _ wr.drew
       rw [hwd]
       clear e0 e1 e2 e3 e4 e5 e6 e7 e8 e9 e10 e11 e12
       go_wp2_with fail
       refine hPr.mono ?_
       rintro e w4 ⟨rfl,n2,hn2,hn2',hd4⟩
       have P4 := Gd.pat.vdid hd4
       have hlow4 := P4.ctx.low
       have hY : w4.drew.cell? ⟨bq,off + k * 13 + 1,none⟩ = some (.int .i64 ht) /\ w4.drew.cell? ⟨bq,off + k * 13 + 2,none⟩ = some (.int .i64 hv) /\ w4.drew.cell? ⟨bq,off + k * 13 + 6,none⟩ = some (.slice eA xl.length ecap) := by
        have hx : ∀ o u,wd.cell? ⟨bq,o,none⟩ = some u -> w4.drew.cell? ⟨bq,o,none⟩ = some u := fun o u h => (World.cell?_of_block ((hlow4.block bq hbq).trans (Gd.pat.ctx.low.block bq hbq).symm)).trans h
        exact ⟨hx _ _ x1,hx _ _ x2,hx _ _ x6⟩
       have HG4 := Lib.hid Gd
       clear x1 x2 x6 hPr Gd hwd
       obtain ⟨⟨b0,b1,b2,b3,b4,b5,b6,b7,b8⟩,_⟩ := row9 P4.box
       go_upto_region 20 with fail
       have P4d := P4.below blq.drew
       have hR4 := hRf w4.drew P4d.rf P4d.ctx.low
       have HY := Lib.hid hY
       have HP := Lib.hid P4d
       clear hRf P4 P4d hd4 hlow4
       refine wp_region_held_drew (S := fun w' => w'.cell? ⟨bq,off + k * 13 + 1,none⟩ = some (.int .i64 ht) /\ w'.cell? ⟨bq,off + k * 13 + 2,none⟩ = some (.int .i64 hv) /\ w'.cell? ⟨bq,off + k * 13 + 6,none⟩ = some (.slice eA xl.length ecap)) (by kernel_rfl) hY (fun hHeld => ?_)
       change wpAnyH _ _ _ _ _ 17 #[false,false,false,false,false,false,false,false,false,false,false,false,false,false,false,false,false] _ _
       refine tkq 1 ⟨some 121, .move (.tmp 1),23, "law.go:64",#[],none⟩ ?_ ?_ ?_
       rotate_left
       · (intro w h; (try dsimp only at h); go_simp); (try with_reducible rfl)
       try simp only [lpq]
       refine tkq 2 ⟨some 122, .move (.tmp 15),3, "law.go:64",#[],none⟩ ?_ ?_ ?_
       rotate_left
       · (intro w h; (try dsimp only at h); go_simp); (try with_reducible rfl)
       try simp only [lpq]
       refine tkq 3 ⟨some 123, .indexAddr 23 (.tmp 121) (.tmp 122),0, "law.go:64",#[⟨1, .data⟩,⟨2, .data⟩],none⟩ ?_ ?_ ?_
       rotate_left
       · (intro w h; (try dsimp only at h); go_simp); (try with_reducible rfl)
       try simp only [lpq]
       refine tkq 4 ⟨some 124, .fieldAddr 55 (.tmp 123) 1,0, "law.go:64",#[⟨3, .data⟩],none⟩ ?_ ?_ ?_
       rotate_left
       · (intro w h; (try dsimp only at h); go_simp); (try with_reducible rfl)
       try simp only [lpq]
       refine tkq 5 ⟨some 125, .load 32 (.tmp 124),32, "law.go:64",#[⟨4, .data⟩],none⟩ ?_ ?_ ?_
       rotate_left
       · (intro w h; (try dsimp only at h); go_simp); (try with_reducible rfl)
       try simp only [lpq]
       refine tkq 6 ⟨some 126, .move (.tmp 1),23, "law.go:64",#[],none⟩ ?_ ?_ ?_
       rotate_left
       · (intro w h; (try dsimp only at h); go_simp); (try with_reducible rfl)
       try simp only [lpq]
       refine tkq 7 ⟨some 127, .move (.tmp 15),3, "law.go:64",#[],none⟩ ?_ ?_ ?_
       rotate_left
       · (intro w h; (try dsimp only at h); go_simp); (try with_reducible rfl)
       try simp only [lpq]
       refine tkq 8 ⟨some 128, .indexAddr 23 (.tmp 126) (.tmp 127),0, "law.go:64",#[⟨6, .data⟩,⟨7, .data⟩],none⟩ ?_ ?_ ?_
       rotate_left
       · (intro w h; (try dsimp only at h); go_simp); (try with_reducible rfl)
       try simp only [lpq]
       refine tkq 9 ⟨some 129, .fieldAddr 55 (.tmp 128) 3,0, "law.go:64",#[⟨8, .data⟩],none⟩ ?_ ?_ ?_
       rotate_left
       · (intro w h; (try dsimp only at h); go_simp); (try with_reducible rfl)
       try simp only [lpq]
       refine tkq 10 ⟨some 130, .load 36 (.tmp 129),36, "law.go:64",#[⟨9, .data⟩],none⟩ ?_ ?_ ?_
       rotate_left
       · (intro w h; (try dsimp only at h); go_simp); (try with_reducible rfl)
       try simp only [lpq]
       refine wpAnyH_ready (rs := [0]) (by kernel_rfl) (by simp) ?_
       refine AllReadyH.cons rfl (fun KK hK => ?_) AllReadyH.nil
       go_simp
       refine hK.out _ _ HY.out (fun hHeld2 => ?_)
       clear hK KK hHeld
       try simp only [lpq]
       refine wpAnyH_ready (rs := [11]) (by kernel_rfl) (by simp) ?_
       refine AllReadyH.cons rfl (fun KK hK => ?_) AllReadyH.nil
       go_simp
       refine hR4.mono ?_
       rintro e w5 ⟨A5,cap5,m5,rfl,hg5,hm5,hm5'⟩
       have hY5 : w5.cell? ⟨bq,off + k * 13 + 1,none⟩ = some (.int .i64 ht) /\ w5.cell? ⟨bq,off + k * 13 + 2,none⟩ = some (.int .i64 hv) /\ w5.cell? ⟨bq,off + k * 13 + 6,none⟩ = some (.slice eA xl.length ecap) := by
        have hx : ∀ o u,w4.drew.cell? ⟨bq,o,none⟩ = some u -> w5.cell? ⟨bq,o,none⟩ = some u := fun o u h => (World.cell?_of_block (hg5.1.block bq (Nat.lt_of_lt_of_le hbq HP.out.ctx.low.size))).trans h
        exact ⟨hx _ _ HY.out.1,hx _ _ HY.out.2.1,hx _ _ HY.out.2.2⟩
       refine hK.out _ _ hY5 (fun hHeld3 => ?_)
       clear hK KK hHeld2 hR4 hY b0 b1 b2 b3 b4 b5 b6 b7 b8
       try simp only [lpq]
       refine tkq 12 ⟨some 119, .move (.tmp 131),57, "law.go:64",#[⟨11, .data⟩],none⟩ ?_ ?_ ?_
       rotate_left
       · (intro w h; (try dsimp only at h); go_simp); (try with_reducible rfl)
       try simp only [lpq]
       refine tkq 13 ⟨some 132, .extract (.tmp 119) 0,45, "law.go:64",#[⟨12, .data⟩],none⟩ ?_ ?_ ?_
       rotate_left
       · (intro w h; (try dsimp only at h); go_simp); (try with_reducible rfl)
       try simp only [lpq]
       refine tkq 14 ⟨some 133, .extract (.tmp 119) 1,3, "law.go:64",#[⟨12, .data⟩,⟨15, .gcOnly .lateStores⟩],none⟩ ?_ ?_ ?_
       rotate_left
       · (intro w h; (try dsimp only at h); go_simp); (try with_reducible rfl)
       try simp only [lpq]
       have hB5 := (hg5.1.block B (hlt HP.out.box)).trans HP.out.box
       have hne : bq ≠ B := by have := HP.out.bG; omega
       have hY6 : (w5.setRow B (vauC A5 cap5 D2 m5 was2)).cell? ⟨bq,off + k * 13 + 1,none⟩ = some (.int .i64 ht) /\ (w5.setRow B (vauC A5 cap5 D2 m5 was2)).cell? ⟨bq,off + k * 13 + 2,none⟩ = some (.int .i64 hv) /\ (w5.setRow B (vauC A5 cap5 D2 m5 was2)).cell? ⟨bq,off + k * 13 + 6,none⟩ = some (.slice eA xl.length ecap) := by
        have hx : ∀ o u,w5.cell? ⟨bq,o,none⟩ = some u -> (w5.setRow B (vauC A5 cap5 D2 m5 was2)).cell? ⟨bq,o,none⟩ = some u := fun o u h => (World.cell?_of_block (setRow_other _ _ _ _ hne)).trans h
        obtain ⟨u1,u2,u6⟩ := hY5
        exact ⟨hx _ _ u1,hx _ _ u2,hx _ _ u6⟩
       refine wpAnyH_ready (rs := [15]) (by kernel_rfl) (by simp) ?_
       refine AllReadyH.cons (o := ⟨none, .store 45 (.tmp 12) (.tmp 132),0, "law.go:64",#[⟨13, .data⟩,⟨11, .chain⟩,⟨0, .phase⟩,⟨1, .phase⟩,⟨2, .phase⟩,⟨3, .phase⟩,⟨4, .phase⟩,⟨5, .phase⟩,⟨6, .phase⟩,⟨7, .phase⟩,⟨8, .phase⟩,⟨9, .phase⟩,⟨10, .phase⟩,⟨11, .phase⟩,⟨12, .phase⟩,⟨13, .phase⟩,⟨14, .textOnly .lateStores⟩],none⟩) rfl (fun KK hK => ?_) AllReadyH.nil
       rw [if_pos (by rfl)]
       refine wp_store_row _ _ _ rfl B (vauC A5 cap5 D2 m5 was2) (by rfl) (by rfl) _ _ hB5 (by kernel_rfl) rfl (by first | rfl | kernel_rfl | simp [Value.oneCell']) ?_
       refine hK.out _ _ hY6 (fun hHeld4 => ?_)
       clear hK KK hHeld3
       try simp only [lpq]
       refine tkq 16 ⟨some 14, .assign (.tmp 133),3, "law.go:64",#[⟨14, .data⟩,⟨15, .chain⟩,⟨0, .phase⟩,⟨1, .phase⟩,⟨2, .phase⟩,⟨3, .phase⟩,⟨4, .phase⟩,⟨5, .phase⟩,⟨6, .phase⟩,⟨7, .phase⟩,⟨8, .phase⟩,⟨9, .phase⟩,⟨10, .phase⟩,⟨11, .phase⟩,⟨12, .phase⟩,⟨13, .phase⟩,⟨14, .phase⟩,⟨15, .phase⟩],none⟩ ?_ ?_ ?_
       rotate_left
       · (intro w h; (try dsimp only at h); go_simp); (try with_reducible rfl)
       try simp only [lpq]
       refine wpAnyH_done (by kernel_rfl) ?_ _
       clear hHeld4 hY5 hY6 HY
       have hB6 : (w5.setRow B (vauC A5 cap5 D2 m5 was2)).heap[B]? = some (.cells (vauC A5 cap5 D2 m5 was2) 45) := setRow_heap _ _ _ _ _ _ hB5
       have P6 := HP.out.got hg5 (below_setRow blq HP.out.bG (vauC A5 cap5 D2 m5 was2)) (setRow_size _ _ _) (fun q hq => setRow_other _ _ _ _ hq) hB6
       have Gx : Goes w2 (w5.setRow B (vauC A5 cap5 D2 m5 was2)) (room : Int) (k + 1) v j d D2 was2 n2 B A5 cap5 m5 _ := ⟨P6,P6.ctx.vt.lg.dk.good,HRM.out.trans HG4.out.room,by have := HG4.out.n; push_cast; omega,by have := HG4.out.m; push_cast; omega⟩
       clear P6 hB6 hB5 hg5 HP HG4
       generalize (w5.setRow B (vauC A5 cap5 D2 m5 was2)) = w6 at *
       have hSame := qcD qbk _ d _ _ _ _ Gx.alike
       obtain ⟨⟨b0,b1,b2,b3,b4,b5,b6,b7,b8⟩,_⟩ := row9 Gx.pat.box
       go_upto_region 32 with fail
       go_wp2_with fail
       refine hSame.mono ?_
       rintro e w9 ⟨rfl,al9,k9⟩
       have G9 := Gx.same al9 k9
       clear hSame b0 b1 b2 b3 b4 b5 b6 b7 b8 al9 k9 Gx
       go_wp2
       go_roundg (gk - 1)
       case measure => have e : k + gk = len0 := HG.out; have := HLT.out; omega
       case rel => exact ⟨k + 1,_,_,_,_,_,_,_,_,_,by have e : k + gk = len0 := HG.out; have := HLT.out; omega,by go_num,rfl,G9⟩
    · by_cases hk1 : xk = 1
      · as_aux_lemma =>
         obtain rfl : xk = 1 := hk1
         have Gd := Gr.below blq.drew
         obtain ⟨wd,hwd⟩ : ∃ wd,wr.drew = wd := ⟨_,rfl⟩
         rw [hwd] at Gd
         have hPr := qkl wd v j d D was n Q Gd.pat.ctx.vt ⟨ht,hv⟩ ⟨si,st,sd⟩ sB sc (Gd.pat.ctx.lies hinG.lies).1 (Gd.pat.ctx.lies hinG.lies).2 eA xl.length ecap xl (Gd.pat.ctx.ents hinG.ents) (by omega) (by have := Gd.n; omega)
         have hRf := fun (w3 : World) (R3 : RF w3 A cap D.l) (H3 : Below w2.heap.size w2 w3) => qjt A cap D m was ⟨ht,hv⟩ ⟨si,st,sd⟩ sB sc _ eA xl.length ecap xl w3 R3 Gd.good (hinG.ents.below H3 nlq) (by omega) (by have := Gd.m; omega) (hinG.lies.below H3 nlq)
         have hrm := qjA D was ⟨ht,hv⟩ ⟨si,st,sd⟩ xl
         unfold qdz at hPr
         unfold qbr at hRf
         generalize D.keepV was ⟨ht,hv⟩ ⟨si,st,sd⟩ xl = RS at *
         obtain ⟨⟨D2,ec⟩,was2⟩ := RS
         dsimp only at hPr hRf hrm
         have HRM := Lib.hid hrm
         clear hrm
         have hX : wd.cell? ⟨bq,off + k * 13 + 1,none⟩ = some (.int .i64 ht) /\ wd.cell? ⟨bq,off + k * 13 + 2,none⟩ = some (.int .i64 hv) /\ wd.cell? ⟨bq,off + k * 13 + 3,none⟩ = some (.int .i64 si) /\ wd.cell? ⟨bq,off + k * 13 + 4,none⟩ = some (.int .i64 st) /\ wd.cell? ⟨bq,off + k * 13 + 5,none⟩ = some (.slice sB sd.length sc) /\ wd.cell? ⟨bq,off + k * 13 + 6,none⟩ = some (.slice eA xl.length ecap) := by
          rw [<- hwd]
          exact ⟨e1,e2,e3,e4,e5,e6⟩
         obtain ⟨x1,x2,x3,x4,x5,x6⟩ := hX
         clear Gr
         go_upto_region 22 with fail
         go_still_tail 16,(by kernel_rfl)
         change wpList _ _ _ _ _ wr.drew
         rw [hwd]
         clear e0 e1 e2 e3 e4 e5 e6 e7 e8 e9 e10 e11 e12
         go_wp2_with fail
         refine hPr.mono ?_
         rintro e w4 ⟨rfl,n2,hn2,hn2',hd4⟩
         have P4 := Gd.pat.vdid hd4
         have hlow4 := P4.ctx.low
         have hY : w4.drew.cell? ⟨bq,off + k * 13 + 1,none⟩ = some (.int .i64 ht) /\ w4.drew.cell? ⟨bq,off + k * 13 + 2,none⟩ = some (.int .i64 hv) /\ w4.drew.cell? ⟨bq,off + k * 13 + 3,none⟩ = some (.int .i64 si) /\ w4.drew.cell? ⟨bq,off + k * 13 + 4,none⟩ = some (.int .i64 st) /\ w4.drew.cell? ⟨bq,off + k * 13 + 5,none⟩ = some (.slice sB sd.length sc) /\ w4.drew.cell? ⟨bq,off + k * 13 + 6,none⟩ = some (.slice eA xl.length ecap) := by
          have hx : ∀ o u,wd.cell? ⟨bq,o,none⟩ = some u -> w4.drew.cell? ⟨bq,o,none⟩ = some u := fun o u h => (World.cell?_of_block ((hlow4.block bq hbq).trans (Gd.pat.ctx.low.block bq hbq).symm)).trans h
          exact ⟨hx _ _ x1,hx _ _ x2,hx _ _ x3,hx _ _ x4,hx _ _ x5,hx _ _ x6⟩
         have HG4 := Lib.hid Gd
         clear x1 x2 x3 x4 x5 x6 hPr Gd hwd
         obtain ⟨⟨b0,b1,b2,b3,b4,b5,b6,b7,b8⟩,_⟩ := row9 P4.box
         go_upto_region 23 with fail
         have P4d := P4.below blq.drew
         have hR4 := hRf w4.drew P4d.rf P4d.ctx.low
         have HY := Lib.hid hY
         have HP := Lib.hid P4d
         clear hRf P4 P4d hd4 hlow4
         refine wp_region_held_drew (S := fun w' => w'.cell? ⟨bq,off + k * 13 + 1,none⟩ = some (.int .i64 ht) /\ w'.cell? ⟨bq,off + k * 13 + 2,none⟩ = some (.int .i64 hv) /\ w'.cell? ⟨bq,off + k * 13 + 3,none⟩ = some (.int .i64 si) /\ w'.cell? ⟨bq,off + k * 13 + 4,none⟩ = some (.int .i64 st) /\ w'.cell? ⟨bq,off + k * 13 + 5,none⟩ = some (.slice sB sd.length sc) /\ w'.cell? ⟨bq,off + k * 13 + 6,none⟩ = some (.slice eA xl.length ecap)) (by kernel_rfl) hY (fun hHeld => ?_)
         change wpAnyH _ _ _ _ _ 22 #[false,false,false,false,false,false,false,false,false,false,false,false,false,false,false,false,false,false,false,false,false,false] _ _
         refine tkq 1 ⟨some 155, .move (.tmp 1),23, "law.go:67",#[],none⟩ ?_ ?_ ?_
         rotate_left
         · (intro w h; (try dsimp only at h); go_simp); (try with_reducible rfl)
         try simp only [lpq]
         refine tkq 2 ⟨some 156, .move (.tmp 15),3, "law.go:67",#[],none⟩ ?_ ?_ ?_
         rotate_left
         · (intro w h; (try dsimp only at h); go_simp); (try with_reducible rfl)
         try simp only [lpq]
         refine tkq 3 ⟨some 157, .indexAddr 23 (.tmp 155) (.tmp 156),0, "law.go:67",#[⟨1, .data⟩,⟨2, .data⟩],none⟩ ?_ ?_ ?_
         rotate_left
         · (intro w h; (try dsimp only at h); go_simp); (try with_reducible rfl)
         try simp only [lpq]
         refine tkq 4 ⟨some 158, .fieldAddr 55 (.tmp 157) 1,0, "law.go:67",#[⟨3, .data⟩],none⟩ ?_ ?_ ?_
         rotate_left
         · (intro w h; (try dsimp only at h); go_simp); (try with_reducible rfl)
         try simp only [lpq]
         refine tkq 5 ⟨some 159, .load 32 (.tmp 158),32, "law.go:67",#[⟨4, .data⟩],none⟩ ?_ ?_ ?_
         rotate_left
         · (intro w h; (try dsimp only at h); go_simp); (try with_reducible rfl)
         try simp only [lpq]
         refine tkq 6 ⟨some 160, .move (.tmp 1),23, "law.go:67",#[],none⟩ ?_ ?_ ?_
         rotate_left
         · (intro w h; (try dsimp only at h); go_simp); (try with_reducible rfl)
         try simp only [lpq]
         refine tkq 7 ⟨some 161, .move (.tmp 15),3, "law.go:67",#[],none⟩ ?_ ?_ ?_
         rotate_left
         · (intro w h; (try dsimp only at h); go_simp); (try with_reducible rfl)
         try simp only [lpq]
         refine tkq 8 ⟨some 162, .indexAddr 23 (.tmp 160) (.tmp 161),0, "law.go:67",#[⟨6, .data⟩,⟨7, .data⟩],none⟩ ?_ ?_ ?_
         rotate_left
         · (intro w h; (try dsimp only at h); go_simp); (try with_reducible rfl)
         try simp only [lpq]
         refine tkq 9 ⟨some 163, .fieldAddr 55 (.tmp 162) 2,0, "law.go:67",#[⟨8, .data⟩],none⟩ ?_ ?_ ?_
         rotate_left
         · (intro w h; (try dsimp only at h); go_simp); (try with_reducible rfl)
         try simp only [lpq]
         refine tkq 10 ⟨some 164, .load 35 (.tmp 163),35, "law.go:67",#[⟨9, .data⟩],none⟩ ?_ ?_ ?_
         rotate_left
         · (intro w h; (try dsimp only at h); go_simp); (try with_reducible rfl)
         try simp only [lpq]
         refine tkq 11 ⟨some 165, .move (.tmp 1),23, "law.go:67",#[],none⟩ ?_ ?_ ?_
         rotate_left
         · (intro w h; (try dsimp only at h); go_simp); (try with_reducible rfl)
         try simp only [lpq]
         refine tkq 12 ⟨some 166, .move (.tmp 15),3, "law.go:67",#[],none⟩ ?_ ?_ ?_
         rotate_left
         · (intro w h; (try dsimp only at h); go_simp); (try with_reducible rfl)
         try simp only [lpq]
         refine tkq 13 ⟨some 167, .indexAddr 23 (.tmp 165) (.tmp 166),0, "law.go:67",#[⟨11, .data⟩,⟨12, .data⟩],none⟩ ?_ ?_ ?_
         rotate_left
         · (intro w h; (try dsimp only at h); go_simp); (try with_reducible rfl)
         try simp only [lpq]
         refine tkq 14 ⟨some 168, .fieldAddr 55 (.tmp 167) 3,0, "law.go:67",#[⟨13, .data⟩],none⟩ ?_ ?_ ?_
         rotate_left
         · (intro w h; (try dsimp only at h); go_simp); (try with_reducible rfl)
         try simp only [lpq]
         refine tkq 15 ⟨some 169, .load 36 (.tmp 168),36, "law.go:67",#[⟨14, .data⟩],none⟩ ?_ ?_ ?_
         rotate_left
         · (intro w h; (try dsimp only at h); go_simp); (try with_reducible rfl)
         try simp only [lpq]
         refine wpAnyH_ready (rs := [0]) (by kernel_rfl) (by simp) ?_
         refine AllReadyH.cons rfl (fun KK hK => ?_) AllReadyH.nil
         go_simp
         refine hK.out _ _ HY.out (fun hHeld2 => ?_)
         clear hK KK hHeld
         try simp only [lpq]
         refine wpAnyH_ready (rs := [16]) (by kernel_rfl) (by simp) ?_
         refine AllReadyH.cons rfl (fun KK hK => ?_) AllReadyH.nil
         go_simp
         refine hR4.mono ?_
         rintro e w5 ⟨A5,cap5,m5,rfl,hg5,hm5,hm5'⟩
         have hY5 : w5.cell? ⟨bq,off + k * 13 + 1,none⟩ = some (.int .i64 ht) /\ w5.cell? ⟨bq,off + k * 13 + 2,none⟩ = some (.int .i64 hv) /\ w5.cell? ⟨bq,off + k * 13 + 3,none⟩ = some (.int .i64 si) /\ w5.cell? ⟨bq,off + k * 13 + 4,none⟩ = some (.int .i64 st) /\ w5.cell? ⟨bq,off + k * 13 + 5,none⟩ = some (.slice sB sd.length sc) /\ w5.cell? ⟨bq,off + k * 13 + 6,none⟩ = some (.slice eA xl.length ecap) := by
          have hx : ∀ o u,w4.drew.cell? ⟨bq,o,none⟩ = some u -> w5.cell? ⟨bq,o,none⟩ = some u := fun o u h => (World.cell?_of_block (hg5.1.block bq (Nat.lt_of_lt_of_le hbq HP.out.ctx.low.size))).trans h
          exact ⟨hx _ _ HY.out.1,hx _ _ HY.out.2.1,hx _ _ HY.out.2.2.1,hx _ _ HY.out.2.2.2.1,hx _ _ HY.out.2.2.2.2.1,hx _ _ HY.out.2.2.2.2.2⟩
         refine hK.out _ _ hY5 (fun hHeld3 => ?_)
         clear hK KK hHeld2 hR4 hY b0 b1 b2 b3 b4 b5 b6 b7 b8
         try simp only [lpq]
         refine tkq 17 ⟨some 153, .move (.tmp 170),57, "law.go:67",#[⟨16, .data⟩],none⟩ ?_ ?_ ?_
         rotate_left
         · (intro w h; (try dsimp only at h); go_simp); (try with_reducible rfl)
         try simp only [lpq]
         refine tkq 18 ⟨some 171, .extract (.tmp 153) 0,45, "law.go:67",#[⟨17, .data⟩],none⟩ ?_ ?_ ?_
         rotate_left
         · (intro w h; (try dsimp only at h); go_simp); (try with_reducible rfl)
         try simp only [lpq]
         refine tkq 19 ⟨some 172, .extract (.tmp 153) 1,3, "law.go:67",#[⟨17, .data⟩,⟨20, .gcOnly .lateStores⟩],none⟩ ?_ ?_ ?_
         rotate_left
         · (intro w h; (try dsimp only at h); go_simp); (try with_reducible rfl)
         try simp only [lpq]
         have hB5 := (hg5.1.block B (hlt HP.out.box)).trans HP.out.box
         have hne : bq ≠ B := by have := HP.out.bG; omega
         have hY6 : (w5.setRow B (vauC A5 cap5 D2 m5 was2)).cell? ⟨bq,off + k * 13 + 1,none⟩ = some (.int .i64 ht) /\ (w5.setRow B (vauC A5 cap5 D2 m5 was2)).cell? ⟨bq,off + k * 13 + 2,none⟩ = some (.int .i64 hv) /\ (w5.setRow B (vauC A5 cap5 D2 m5 was2)).cell? ⟨bq,off + k * 13 + 3,none⟩ = some (.int .i64 si) /\ (w5.setRow B (vauC A5 cap5 D2 m5 was2)).cell? ⟨bq,off + k * 13 + 4,none⟩ = some (.int .i64 st) /\ (w5.setRow B (vauC A5 cap5 D2 m5 was2)).cell? ⟨bq,off + k * 13 + 5,none⟩ = some (.slice sB sd.length sc) /\ (w5.setRow B (vauC A5 cap5 D2 m5 was2)).cell? ⟨bq,off + k * 13 + 6,none⟩ = some (.slice eA xl.length ecap) := by
          have hx : ∀ o u,w5.cell? ⟨bq,o,none⟩ = some u -> (w5.setRow B (vauC A5 cap5 D2 m5 was2)).cell? ⟨bq,o,none⟩ = some u := fun o u h => (World.cell?_of_block (setRow_other _ _ _ _ hne)).trans h
          obtain ⟨u1,u2,u3,u4,u5,u6⟩ := hY5
          exact ⟨hx _ _ u1,hx _ _ u2,hx _ _ u3,hx _ _ u4,hx _ _ u5,hx _ _ u6⟩
         refine wpAnyH_ready (rs := [20]) (by kernel_rfl) (by simp) ?_
         refine AllReadyH.cons (o := ⟨none, .store 45 (.tmp 12) (.tmp 171),0, "law.go:67",#[⟨18, .data⟩,⟨16, .chain⟩,⟨0, .phase⟩,⟨1, .phase⟩,⟨2, .phase⟩,⟨3, .phase⟩,⟨4, .phase⟩,⟨5, .phase⟩,⟨6, .phase⟩,⟨7, .phase⟩,⟨8, .phase⟩,⟨9, .phase⟩,⟨10, .phase⟩,⟨11, .phase⟩,⟨12, .phase⟩,⟨13, .phase⟩,⟨14, .phase⟩,⟨15, .phase⟩,⟨16, .phase⟩,⟨17, .phase⟩,⟨18, .phase⟩,⟨19, .textOnly .lateStores⟩],none⟩) rfl (fun KK hK => ?_) AllReadyH.nil
         rw [if_pos (by rfl)]
         refine wp_store_row _ _ _ rfl B (vauC A5 cap5 D2 m5 was2) (by rfl) (by rfl) _ _ hB5 (by kernel_rfl) rfl (by first | rfl | kernel_rfl | simp [Value.oneCell']) ?_
         refine hK.out _ _ hY6 (fun hHeld4 => ?_)
         clear hK KK hHeld3
         try simp only [lpq]
         refine tkq 21 ⟨some 14, .assign (.tmp 172),3, "law.go:67",#[⟨19, .data⟩,⟨20, .chain⟩,⟨0, .phase⟩,⟨1, .phase⟩,⟨2, .phase⟩,⟨3, .phase⟩,⟨4, .phase⟩,⟨5, .phase⟩,⟨6, .phase⟩,⟨7, .phase⟩,⟨8, .phase⟩,⟨9, .phase⟩,⟨10, .phase⟩,⟨11, .phase⟩,⟨12, .phase⟩,⟨13, .phase⟩,⟨14, .phase⟩,⟨15, .phase⟩,⟨16, .phase⟩,⟨17, .phase⟩,⟨18, .phase⟩,⟨19, .phase⟩,⟨20, .phase⟩],none⟩ ?_ ?_ ?_
         rotate_left
         · (intro w h; (try dsimp only at h); go_simp); (try with_reducible rfl)
         try simp only [lpq]
         refine wpAnyH_done (by kernel_rfl) ?_ _
         clear hHeld4 hY5 hY6 HY
         have hB6 : (w5.setRow B (vauC A5 cap5 D2 m5 was2)).heap[B]? = some (.cells (vauC A5 cap5 D2 m5 was2) 45) := setRow_heap _ _ _ _ _ _ hB5
         have P6 := HP.out.got hg5 (below_setRow blq HP.out.bG (vauC A5 cap5 D2 m5 was2)) (setRow_size _ _ _) (fun q hq => setRow_other _ _ _ _ hq) hB6
         have Gx : Goes w2 (w5.setRow B (vauC A5 cap5 D2 m5 was2)) (room : Int) (k + 1) v j d D2 was2 n2 B A5 cap5 m5 _ := ⟨P6,P6.ctx.vt.lg.dk.good,HRM.out.trans HG4.out.room,by have := HG4.out.n; push_cast; omega,by have := HG4.out.m; push_cast; omega⟩
         clear P6 hB6 hB5 hg5 HP HG4
         generalize (w5.setRow B (vauC A5 cap5 D2 m5 was2)) = w6 at *
         have hSame := qcD qbk _ d _ _ _ _ Gx.alike
         obtain ⟨⟨b0,b1,b2,b3,b4,b5,b6,b7,b8⟩,_⟩ := row9 Gx.pat.box
         go_upto_region 32 with fail
         go_wp2_with fail
         refine hSame.mono ?_
         rintro e w9 ⟨rfl,al9,k9⟩
         have G9 := Gx.same al9 k9
         clear hSame b0 b1 b2 b3 b4 b5 b6 b7 b8 al9 k9 Gx
         go_wp2
         go_roundg (gk - 1)
         case measure => have e : k + gk = len0 := HG.out; have := HLT.out; omega
         case rel => exact ⟨k + 1,_,_,_,_,_,_,_,_,_,by have e : k + gk = len0 := HG.out; have := HLT.out; omega,by go_num,rfl,G9⟩
      · by_cases hk2 : xk = 2
        · as_aux_lemma =>
           obtain rfl : xk = 2 := hk2
           clear e1 e2 e3 e4 e5 e6 e7 e8 e9 e10 e11 e12 hfit hinG
           have hOp := qcW wr d D Q Gr.pat.ctx.vt.lg.dk (qgx Gr.good (by rw [Gr.room]; omega) _)
           have hrm := qjB D
           have hbad := qkC D
           have hRf := fun (w3 : World) (R3 : RF w3 A cap D.l) => qfJ A cap D w3 R3 Gr.good (by rw [Gr.room]; omega)
           unfold qat at hOp
           unfold qdC at hRf
           generalize D.openV = RS at *
           obtain ⟨⟨D2,ec⟩,⟨⟨oh,ov⟩,⟨oi,ot,od⟩,ol⟩⟩ := RS
           dsimp only at hOp hRf hrm hbad
           have HRM := Lib.hid hrm
           clear hrm
           by_cases hec : ec = 0
           · subst hec
             clear hbad
             go_wp2_with fail
             refine hOp.mono ?_
             intro e w4 hop
             rcases hop with ⟨_,v2,j2,n2,Q2,Bs,bc,A4,c4,rfl,ho⟩ | ⟨hq,_⟩
             case inr => exact absurd rfl hq
             have P4 := Gr.pat.opd ho
             have hn2 := ho.num
             have holen : ol.length <= maxLen := Nat.le_trans ho.ents.len.2.1 ho.ents.len.2.2
             have hoE := ho.ents.ents
             have hol := ho.lies
             dsimp only at hoE hol hn2 P4
             have HGr := Lib.hid Gr
             clear hOp ho Gr e0
             have hW5 : Below w4.heap.size w4 ((w4.alloc (.cells #[.int .i64 oh, .int .i64 ov] 32)).alloc (.cells #[.int .i64 oi, .int .i64 ot, .slice Bs od.length bc] 35)) := (blq.alloc nlq _).alloc (by simp) _
             have r17 : ((w4.alloc (.cells #[.int .i64 oh, .int .i64 ov] 32)).alloc (.cells #[.int .i64 oi, .int .i64 ot, .slice Bs od.length bc] 35)).heap[w4.heap.size]? = some (.cells #[.int .i64 oh, .int .i64 ov] 32) := (Below.heap_alloc _ _ _ (by simp)).trans (heap_alloc_new _ _)
             have r18 : ((w4.alloc (.cells #[.int .i64 oh, .int .i64 ov] 32)).alloc (.cells #[.int .i64 oi, .int .i64 ot, .slice Bs od.length bc] 35)).heap[w4.heap.size + 1]? = some (.cells #[.int .i64 oi, .int .i64 ot, .slice Bs od.length bc] 35) := heap_alloc2_new _ _ _
             have P5 := P4.below hW5
             have hoE5 := hoE.below hW5 nlq
             have hol5 := hol.below hW5 nlq
             have hBw : B < wr.heap.size := hlt HGr.out.pat.box
             have hBw4 : B < w4.heap.size := hlt P4.box
             clear hoE hol P4
             go_upto_region 26 with fail
             try simp only [List.length_nil] at *
             obtain ⟨w5,hw5⟩ : ∃ w5,w5 = ((w4.alloc (.cells #[.int .i64 oh, .int .i64 ov] 32)).alloc (.cells #[.int .i64 oi, .int .i64 ot, .slice Bs od.length bc] 35)) := ⟨_,rfl⟩
             rw [<- hw5] at hW5 r17 r18 P5 hoE5 hol5 ⊢
             obtain ⟨P17,hP17⟩ : ∃ P17,P17 = w4.heap.size := ⟨_,rfl⟩
             rw [<- hP17] at r17 r18 hBw4 ⊢
             clear hw5 hW5 hP17
             have hR5 := hRf w5 P5.rf
             obtain ⟨⟨b0,b1,b2,b3,b4,b5,b6,b7,b8⟩,_⟩ := row9 P5.box
             clear hRf
             go_wp2_with fail
             refine hR5.mono ?_
             rintro e w6 ⟨A6,cap6,nm6,m6,hh6,Bs6,bn6,bc6,E6,el6,ec6,rfl,hg6,hl6,hE6,h60⟩
             obtain rfl := hl6.1
             obtain rfl := hE6.1
             obtain ⟨rfl,rfl,hm60,hm61⟩ := h60 (by first | rfl | trivial)
             clear h60
             have hw56 := hg6.1.size
             have r17 := (hg6.1.block _ (hlt r17)).trans r17
             have r18 := (hg6.1.block _ (hlt r18)).trans r18
             have rb6 := (hg6.1.block _ (hlt P5.box)).trans P5.box
             have hoE6 := hoE5.below hg6.1 nlq
             have hol6 := hol5.below hg6.1 nlq
             clear hR5 b0 b1 b2 b3 b4 b5 b6 b7 b8 hoE5 hol5
             go_upto_region 27 with fail
             have hW7 : Below w6.heap.size w6 ((w6.alloc (.cells #[.int .i64 D2.room, .slice A6 D2.l.length cap6, .bool D2.set, .int .i64 D2.n, .bool D2.lost, .string nWal, .int .i64 m6, .int .i64 oh, .int .i64 ov] 45)).alloc (.cells #[.int .i64 oh, .int .i64 ov, .int .i64 oi, .int .i64 ot, .slice Bs6 od.length bc6, .slice E6 ol.length ec6] 47)) := (blq.alloc nlq _).alloc (by simp) _
             have r21 : ((w6.alloc (.cells #[.int .i64 D2.room, .slice A6 D2.l.length cap6, .bool D2.set, .int .i64 D2.n, .bool D2.lost, .string nWal, .int .i64 m6, .int .i64 oh, .int .i64 ov] 45)).alloc (.cells #[.int .i64 oh, .int .i64 ov, .int .i64 oi, .int .i64 ot, .slice Bs6 od.length bc6, .slice E6 ol.length ec6] 47)).heap[w6.heap.size]? = some (.cells #[.int .i64 D2.room, .slice A6 D2.l.length cap6, .bool D2.set, .int .i64 D2.n, .bool D2.lost, .string nWal, .int .i64 m6, .int .i64 oh, .int .i64 ov] 45) := (Below.heap_alloc _ _ _ (by simp)).trans (heap_alloc_new _ _)
             have r22 : ((w6.alloc (.cells #[.int .i64 D2.room, .slice A6 D2.l.length cap6, .bool D2.set, .int .i64 D2.n, .bool D2.lost, .string nWal, .int .i64 m6, .int .i64 oh, .int .i64 ov] 45)).alloc (.cells #[.int .i64 oh, .int .i64 ov, .int .i64 oi, .int .i64 ot, .slice Bs6 od.length bc6, .slice E6 ol.length ec6] 47)).heap[w6.heap.size + 1]? = some (.cells #[.int .i64 oh, .int .i64 ov, .int .i64 oi, .int .i64 ot, .slice Bs6 od.length bc6, .slice E6 ol.length ec6] 47) := heap_alloc2_new _ _ _
             have r17 := (hW7.block _ (hlt r17)).trans r17
             have r18 := (hW7.block _ (hlt r18)).trans r18
             have rb7 := (hW7.block _ (hlt rb6)).trans rb6
             have hoE7 := hoE6.below hW7 nlq
             have hol7 := hol6.below hW7 nlq
             have hl7 := hl6.below hW7 nlq
             have hE7 := hE6.below hW7 nlq
             have hg7 := hg6.step hW7
             have hB6 := hlt rb6
             clear hoE6 hol6 hl6 hE6 hg6 rb6
             try simp only [List.length_nil] at *
             obtain ⟨w7,hw7⟩ : ∃ w7,w7 = ((w6.alloc (.cells #[.int .i64 D2.room, .slice A6 D2.l.length cap6, .bool D2.set, .int .i64 D2.n, .bool D2.lost, .string nWal, .int .i64 m6, .int .i64 oh, .int .i64 ov] 45)).alloc (.cells #[.int .i64 oh, .int .i64 ov, .int .i64 oi, .int .i64 ot, .slice Bs6 od.length bc6, .slice E6 ol.length ec6] 47)) := ⟨_,rfl⟩
             rw [<- hw7] at hW7 r21 r22 r17 r18 rb7 hoE7 hol7 hl7 hE7 hg7 ⊢
             have hW7s := hW7.size
             obtain ⟨P21,hP21⟩ : ∃ P21,P21 = w6.heap.size := ⟨_,rfl⟩
             rw [<- hP21] at r21 r22 ⊢
             have hBP : B < P21 := by omega
             clear hw7 hW7 hP21
             obtain ⟨wd,hwd⟩ : ∃ wd,w7.drew = wd := ⟨_,rfl⟩
             have hbd : Below w7.heap.size w7 wd := by rw [<- hwd]; exact blq.drew
             have rd21 := (hbd.block _ (hlt r21)).trans r21
             have rdB := (hbd.block _ (hlt rb7)).trans rb7
             obtain ⟨⟨y0,y1,y2,y3,y4,y5,y6,y7,y8⟩,_⟩ := row9 rd21
             obtain ⟨⟨b0,b1,b2,b3,b4,b5,b6,b7,b8⟩,⟨f0,f1,f2,f3,f4,f5,f6,f7,f8⟩⟩ := row9 rdB
             have hS27 : w7.drew.cell? ⟨P21,0,none⟩ = some (.int .i64 D2.room) /\ w7.drew.cell? ⟨P21,1,none⟩ = some (.slice A6 D2.l.length cap6) /\ w7.drew.cell? ⟨P21,2,none⟩ = some (.bool D2.set) /\ w7.drew.cell? ⟨P21,3,none⟩ = some (.int .i64 D2.n) /\ w7.drew.cell? ⟨P21,4,none⟩ = some (.bool D2.lost) := by rw [hwd]; exact ⟨y0,y1,y2,y3,y4⟩
             have hne27 : P21 ≠ B := by omega
             obtain ⟨w8,HX8,hX8,hs8,far8,box8,cell8⟩ := qdb rdB HGr.out.pat.bG (.int .i64 D2.room) (.slice A6 D2.l.length cap6) (.bool D2.set) (.int .i64 D2.n) (.bool D2.lost)
             have hT27 : w8.cell? ⟨P21,0,none⟩ = some (.int .i64 D2.room) /\ w8.cell? ⟨P21,1,none⟩ = some (.slice A6 D2.l.length cap6) /\ w8.cell? ⟨P21,2,none⟩ = some (.bool D2.set) /\ w8.cell? ⟨P21,3,none⟩ = some (.int .i64 D2.n) /\ w8.cell? ⟨P21,4,none⟩ = some (.bool D2.lost) := ⟨cell8 _ _ _ hne27 y0,cell8 _ _ _ hne27 y1,cell8 _ _ _ hne27 y2,cell8 _ _ _ hne27 y3,cell8 _ _ _ hne27 y4⟩
             have HF8 := Lib.hid far8
             have HB8 := Lib.hid box8
             clear far8 cell8 box8
             refine wp_region_held_drew (S := fun w' => w'.cell? ⟨P21,0,none⟩ = some (.int .i64 D2.room) /\ w'.cell? ⟨P21,1,none⟩ = some (.slice A6 D2.l.length cap6) /\ w'.cell? ⟨P21,2,none⟩ = some (.bool D2.set) /\ w'.cell? ⟨P21,3,none⟩ = some (.int .i64 D2.n) /\ w'.cell? ⟨P21,4,none⟩ = some (.bool D2.lost)) (by kernel_rfl) hS27 (fun hHeld => ?_)
             rw [hwd] at hHeld ⊢
             change wpAnyH _ _ _ _ _ 10 #[false,false,false,false,false,false,false,false,false,false] _ _
             refine tkq 0 ⟨some 191, .move (.tmp 20),27, "law.go:71",#[],none⟩ ?_ ?_ ?_
             rotate_left
             · (intro w h; (try dsimp only at h); go_simp); (try with_reducible rfl)
             try simp only [lpq]
             refine tkq 1 ⟨some 192, .move (.tmp 23),3, "law.go:71",#[⟨5, .gcOnly .lateStores⟩],none⟩ ?_ ?_ ?_
             rotate_left
             · (intro w h; (try dsimp only at h); go_simp); (try with_reducible rfl)
             try simp only [lpq]
             refine tkq 2 ⟨some 193, .fieldAddr 45 (.tmp 21) 0,0, "law.go:71",#[⟨6, .gcOnly .lateStores⟩],none⟩ ?_ ?_ ?_
             rotate_left
             · (intro w h; (try dsimp only at h); go_simp); (try with_reducible rfl)
             try simp only [lpq]
             refine tkq 3 ⟨some 194, .fieldAddr 43 (.tmp 193) 0,0, "law.go:71",#[⟨2, .data⟩,⟨6, .gcOnly .lateStores⟩],none⟩ ?_ ?_ ?_
             rotate_left
             · (intro w h; (try dsimp only at h); go_simp); (try with_reducible rfl)
             try simp only [lpq]
             refine tkq 4 ⟨some 195, .load 41 (.tmp 194),41, "law.go:71",#[⟨3, .data⟩,⟨6, .gcOnly .lateStores⟩],none⟩ ?_ ?_ ?_
             rotate_left
             · (intro w h; (try dsimp only at h); go_simp); (try with_reducible rfl)
             try simp only [lpq]
             refine tkq 5 ⟨some 11, .assign (.tmp 191),27, "law.go:71",#[⟨0, .data⟩,⟨0, .phase⟩,⟨1, .textOnly .lateStores⟩,⟨2, .textOnly .lateStores⟩,⟨3, .textOnly .lateStores⟩,⟨4, .textOnly .lateStores⟩],none⟩ ?_ ?_ ?_
             rotate_left
             · (intro w h; (try dsimp only at h); go_simp); (try with_reducible rfl)
             try simp only [lpq]
             refine tkq 6 ⟨some 14, .assign (.tmp 192),3, "law.go:71",#[⟨1, .data⟩,⟨5, .chain⟩,⟨0, .phase⟩,⟨1, .phase⟩,⟨2, .textOnly .lateStores⟩,⟨3, .textOnly .lateStores⟩,⟨4, .textOnly .lateStores⟩,⟨5, .phase⟩],none⟩ ?_ ?_ ?_
             rotate_left
             · (intro w h; (try dsimp only at h); go_simp); (try with_reducible rfl)
             try simp only [lpq]
             refine tkq 7 ⟨some 196, .fieldAddr 45 (.tmp 12) 0,0, "law.go:71",#[⟨0, .phase⟩,⟨1, .phase⟩,⟨2, .phase⟩,⟨3, .phase⟩,⟨4, .phase⟩,⟨5, .phase⟩,⟨6, .phase⟩],none⟩ ?_ ?_ ?_
             rotate_left
             · (intro w h; (try dsimp only at h); go_simp); (try with_reducible rfl)
             try simp only [lpq]
             refine tkq 8 ⟨some 197, .fieldAddr 43 (.tmp 196) 0,0, "law.go:71",#[⟨7, .data⟩,⟨0, .phase⟩,⟨1, .phase⟩,⟨2, .phase⟩,⟨3, .phase⟩,⟨4, .phase⟩,⟨5, .phase⟩,⟨6, .phase⟩],none⟩ ?_ ?_ ?_
             rotate_left
             · (intro w h; (try dsimp only at h); go_simp); (try with_reducible rfl)
             try simp only [lpq]
             refine wpAnyH_ready (rs := [9]) (by kernel_rfl) (by simp) ?_
             refine AllReadyH.cons rfl (fun KK hK => ?_) AllReadyH.nil
             go_simp
             rw [HX8.out]
             refine hK.out _ _ hT27 (fun hHeld2 => ?_)
             clear hK KK hHeld hT27
             try simp only [lpq]
             refine wpAnyH_done (by kernel_rfl) ?_ _
             clear hHeld2
             have hgd := hg7.step hbd
             have far8 := HF8.out
             have box8 := HB8.out
             clear HF8 HB8 HX8
             have P8 := P5.got hgd hX8 hs8 far8 box8
             have r17 := (far8 _ (by omega)).trans ((hbd.block _ (hlt r17)).trans r17)
             have r18 := (far8 _ (by omega)).trans ((hbd.block _ (hlt r18)).trans r18)
             have r21 := (far8 _ (by omega)).trans rd21
             have r22 := (far8 _ (by omega)).trans ((hbd.block _ (hlt r22)).trans r22)
             have kp8 : ∀ q,q ≠ B -> q < w7.heap.size -> w8.heap[q]? = w7.heap[q]? := fun q h h' => (far8 q h).trans (hbd.block q h')
             have hs78 : w7.heap.size <= w8.heap.size := by rw [hs8]; exact hbd.size
             have hoE8 := hoE7.keep hs78 fun q h h' => kp8 q (by have h'' := h'.2.2.2; omega) h
             have hol8 := hol7.keep hs78 fun h0 g off e hg => kp8 g (qei hol7 h0 rb7 (qcZ _ _ _ _ _) g off e) hg
             have hl8 := hl7.keep hs78 fun h0 g off e hg => kp8 g (qei hl7 h0 rb7 (qcZ _ _ _ _ _) g off e) hg
             have hE8 := hE7.keep hs78 fun q h h' => kp8 q (by have h'' : w5.heap.size <= q := h'; have := hlt P5.box; omega) h
             clear hoE7 hol7 hl7 hE7 rd21 rdB y0 y1 y2 y3 y4 y5 y6 y7 y8 b0 b1 b2 b3 b4 b5 b6 b7 b8 f0 f1 f2 f3 f4 f5 f6 f7 f8 P5 hgd hX8 box8 far8 kp8 hg7 rb7
             obtain ⟨Q8,hQ8⟩ : ∃ Q8 : Nat -> Prop,Q8 = (fun k => Q2 k \/ w5.heap.size <= k /\ k < w8.heap.size) := ⟨_,rfl⟩
             rw [<- hQ8] at P8
             clear hQ8 hs78 hs8 hbd hwd
             have hH := qd7 w8 ⟨oh,ov⟩ ⟨oi,ot,od⟩ Bs bc Bs6 bc6 _ _ A4 c4 E6 ec6 ol hol8 hl8 hoE8 hE8 (holen)
             dsimp only at hH
             try simp only [List.length_nil] at hH
             obtain ⟨⟨p0,p1⟩,_⟩ := row2 r17
             obtain ⟨⟨q0,q1,q2⟩,_⟩ := row3 r18
             obtain ⟨⟨z0,z1,z2,z3,z4,z5⟩,_⟩ := row6 r22
             go_wp2_with fail
             refine hH.mono ?_
             rintro e w9 ⟨rfl,hb9⟩
             have P9 := P8.below hb9
             have r21 := (hb9.block _ (hlt r21)).trans r21
             clear hH p0 p1 q0 q1 q2 z0 z1 z2 z3 z4 z5 P8 r17 r18 r22 hb9 hol8 hl8 hoE8 hE8
             go_upto_region 31 with fail
             have P9d := P9.below blq.drew
             obtain ⟨wd9,hwd9⟩ : ∃ wd9,w9.drew = wd9 := ⟨_,rfl⟩
             have r21d : wd9.heap[P21]? = some (.cells #[.int .i64 D2.room, .slice A6 D2.l.length cap6, .bool D2.set, .int .i64 D2.n, .bool D2.lost, .string nWal, .int .i64 m6, .int .i64 oh, .int .i64 ov] 45) := by rw [<- hwd9]; exact r21
             rw [hwd9] at P9d
             obtain ⟨⟨y0,y1,y2,y3,y4,y5,y6,y7,y8⟩,_⟩ := row9 r21d
             have hS31 : w9.drew.cell? ⟨P21,0,none⟩ = some (.int .i64 D2.room) /\ w9.drew.cell? ⟨P21,1,none⟩ = some (.slice A6 D2.l.length cap6) /\ w9.drew.cell? ⟨P21,2,none⟩ = some (.bool D2.set) /\ w9.drew.cell? ⟨P21,3,none⟩ = some (.int .i64 D2.n) /\ w9.drew.cell? ⟨P21,4,none⟩ = some (.bool D2.lost) /\ w9.drew.cell? ⟨P21,5,none⟩ = some (.string nWal) /\ w9.drew.cell? ⟨P21,6,none⟩ = some (.int .i64 m6) /\ w9.drew.cell? ⟨P21,7,none⟩ = some (.int .i64 oh) /\ w9.drew.cell? ⟨P21,8,none⟩ = some (.int .i64 ov) := by rw [hwd9]; exact ⟨y0,y1,y2,y3,y4,y5,y6,y7,y8⟩
             have hne31 : P21 ≠ B := by omega
             have hT31 : (wd9.setRow B (vauC A6 cap6 D2 m6 ⟨oh,ov⟩)).cell? ⟨P21,0,none⟩ = some (.int .i64 D2.room) /\ (wd9.setRow B (vauC A6 cap6 D2 m6 ⟨oh,ov⟩)).cell? ⟨P21,1,none⟩ = some (.slice A6 D2.l.length cap6) /\ (wd9.setRow B (vauC A6 cap6 D2 m6 ⟨oh,ov⟩)).cell? ⟨P21,2,none⟩ = some (.bool D2.set) /\ (wd9.setRow B (vauC A6 cap6 D2 m6 ⟨oh,ov⟩)).cell? ⟨P21,3,none⟩ = some (.int .i64 D2.n) /\ (wd9.setRow B (vauC A6 cap6 D2 m6 ⟨oh,ov⟩)).cell? ⟨P21,4,none⟩ = some (.bool D2.lost) /\ (wd9.setRow B (vauC A6 cap6 D2 m6 ⟨oh,ov⟩)).cell? ⟨P21,5,none⟩ = some (.string nWal) /\ (wd9.setRow B (vauC A6 cap6 D2 m6 ⟨oh,ov⟩)).cell? ⟨P21,6,none⟩ = some (.int .i64 m6) /\ (wd9.setRow B (vauC A6 cap6 D2 m6 ⟨oh,ov⟩)).cell? ⟨P21,7,none⟩ = some (.int .i64 oh) /\ (wd9.setRow B (vauC A6 cap6 D2 m6 ⟨oh,ov⟩)).cell? ⟨P21,8,none⟩ = some (.int .i64 ov) := by
              have hx : ∀ o u,wd9.cell? ⟨P21,o,none⟩ = some u -> (wd9.setRow B (vauC A6 cap6 D2 m6 ⟨oh,ov⟩)).cell? ⟨P21,o,none⟩ = some u := fun o u h => (World.cell?_of_block (setRow_other _ _ _ _ hne31)).trans h
              exact ⟨hx _ _ y0,hx _ _ y1,hx _ _ y2,hx _ _ y3,hx _ _ y4,hx _ _ y5,hx _ _ y6,hx _ _ y7,hx _ _ y8⟩
             refine wp_region_held_drew (S := fun w' => w'.cell? ⟨P21,0,none⟩ = some (.int .i64 D2.room) /\ w'.cell? ⟨P21,1,none⟩ = some (.slice A6 D2.l.length cap6) /\ w'.cell? ⟨P21,2,none⟩ = some (.bool D2.set) /\ w'.cell? ⟨P21,3,none⟩ = some (.int .i64 D2.n) /\ w'.cell? ⟨P21,4,none⟩ = some (.bool D2.lost) /\ w'.cell? ⟨P21,5,none⟩ = some (.string nWal) /\ w'.cell? ⟨P21,6,none⟩ = some (.int .i64 m6) /\ w'.cell? ⟨P21,7,none⟩ = some (.int .i64 oh) /\ w'.cell? ⟨P21,8,none⟩ = some (.int .i64 ov)) (by kernel_rfl) hS31 (fun hHeld => ?_)
             rw [hwd9] at hHeld ⊢
             change wpAnyH _ _ _ _ _ 4 #[false,false,false,false] _ _
             refine tkq 0 ⟨some 213, .move (.tmp 16),30, "law.go:76",#[],none⟩ ?_ ?_ ?_
             rotate_left
             · (intro w h; (try dsimp only at h); go_simp); (try with_reducible rfl)
             try simp only [lpq]
             refine tkq 1 ⟨some 214, .load 45 (.tmp 21),45, "law.go:76",#[⟨2, .gcOnly .lateStores⟩],none⟩ ?_ ?_ ?_
             rotate_left
             · (intro w h; (try dsimp only at h); go_simp); (try with_reducible rfl)
             try simp only [lpq]
             refine tkq 2 ⟨some 7, .assign (.tmp 213),30, "law.go:76",#[⟨0, .data⟩,⟨0, .phase⟩,⟨1, .textOnly .lateStores⟩],none⟩ ?_ ?_ ?_
             rotate_left
             · (intro w h; (try dsimp only at h); go_simp); (try with_reducible rfl)
             try simp only [lpq]
             refine wpAnyH_ready (rs := [3]) (by kernel_rfl) (by simp) ?_
             refine AllReadyH.cons (o := ⟨none, .store 45 (.tmp 12) (.tmp 214),0, "law.go:76",#[⟨1, .data⟩,⟨2, .chain⟩,⟨0, .phase⟩,⟨1, .phase⟩,⟨2, .phase⟩],none⟩) rfl (fun KK hK => ?_) AllReadyH.nil
             rw [if_pos (by rfl)]
             refine wp_store_row _ _ _ rfl B (vauC A6 cap6 D2 m6 ⟨oh,ov⟩) (by rfl) (by rfl) _ _ P9d.box (by kernel_rfl) rfl (by first | rfl | kernel_rfl | simp [Value.oneCell']) ?_
             refine hK.out _ _ hT31 (fun hHeld2 => ?_)
             clear hK KK hHeld hT31 hS31
             try simp only [lpq]
             refine wpAnyH_done (by kernel_rfl) ?_ _
             clear hHeld2
             have hB9 : (wd9.setRow B (vauC A6 cap6 D2 m6 ⟨oh,ov⟩)).heap[B]? = some (.cells (vauC A6 cap6 D2 m6 ⟨oh,ov⟩) 45) := setRow_heap _ _ _ _ _ _ P9d.box
             have PX := P9d.got (Got.same blq) (below_setRow blq HGr.out.pat.bG (vauC A6 cap6 D2 m6 ⟨oh,ov⟩)) (setRow_size _ _ _) (fun q hq => setRow_other _ _ _ _ hq) hB9
             have Gx : Goes w2 (wd9.setRow B (vauC A6 cap6 D2 m6 ⟨oh,ov⟩)) (room : Int) (k + 1) v2 j2 d D2 ⟨oh,ov⟩ n2 B A6 cap6 m6 _ := ⟨PX,PX.ctx.vt.lg.dk.good,HRM.out.trans HGr.out.room,by push_cast; omega,by push_cast; omega⟩
             clear PX hB9 P9d r21d y0 y1 y2 y3 y4 y5 y6 y7 y8 hwd9 P9 r21
             generalize (wd9.setRow B (vauC A6 cap6 D2 m6 ⟨oh,ov⟩)) = w6x at *
             have hSame := qcD qbk _ d _ _ _ _ Gx.alike
             obtain ⟨⟨b0,b1,b2,b3,b4,b5,b6,b7,b8⟩,_⟩ := row9 Gx.pat.box
             go_upto_region 32 with fail
             go_wp2_with fail
             refine hSame.mono ?_
             rintro e w9 ⟨rfl,al9,k9⟩
             have G9 := Gx.same al9 k9
             clear hSame b0 b1 b2 b3 b4 b5 b6 b7 b8 al9 k9 Gx
             go_wp2
             go_roundg (gk - 1)
             case measure => have e : k + gk = len0 := HG.out; have := HLT.out; omega
             case rel => exact ⟨k + 1,_,_,_,_,_,_,_,_,_,by have e : k + gk = len0 := HG.out; have := HLT.out; omega,by go_num,rfl,G9⟩
           · have i0 : ((ec : Int) == 0) = false := beq_eq_false_iff_ne.2 (by omega)
             have i0' : ((ec : Int) = 0) = False := eq_false (by omega)
             have i1 : ((ec : Int) != 0) = true := by simp; omega
             have hb := hbad hec
             simp only [qN,qaC,Held.mk.injEq,Hd.mk.injEq,Ent.mk.injEq] at hb
             obtain ⟨⟨rfl,rfl⟩,⟨rfl,rfl,rfl⟩,rfl⟩ := hb
             have HEC := Lib.hid hec
             clear hbad hec
             go_wp2_with fail
             refine hOp.mono ?_
             intro e w4 hop
             rcases hop with ⟨hq,_⟩ | ⟨_,rfl,hdd⟩
             case inl => exact absurd hq HEC.out
             have P4 := Gr.pat.did hdd
             have hoE : Ents w4 (fun q => wr.heap.size <= q) none ([] : List Ent).length 0 [] := ⟨rfl,nlq,fun _ => rfl,fun h => absurd h (by simp)⟩
             have hol : Lies w4 none ([] : List UInt8).length 0 [] := Lies.nil _
             have HGr := Lib.hid Gr
             clear hOp hdd Gr e0
             have hW5 : Below w4.heap.size w4 ((w4.alloc (.cells #[.int .i64 0, .int .i64 0] 32)).alloc (.cells #[.int .i64 0, .int .i64 0, .slice none 0 0] 35)) := (blq.alloc nlq _).alloc (by simp) _
             have r17 : ((w4.alloc (.cells #[.int .i64 0, .int .i64 0] 32)).alloc (.cells #[.int .i64 0, .int .i64 0, .slice none 0 0] 35)).heap[w4.heap.size]? = some (.cells #[.int .i64 0, .int .i64 0] 32) := (Below.heap_alloc _ _ _ (by simp)).trans (heap_alloc_new _ _)
             have r18 : ((w4.alloc (.cells #[.int .i64 0, .int .i64 0] 32)).alloc (.cells #[.int .i64 0, .int .i64 0, .slice none 0 0] 35)).heap[w4.heap.size + 1]? = some (.cells #[.int .i64 0, .int .i64 0, .slice none 0 0] 35) := heap_alloc2_new _ _ _
             have P5 := P4.below hW5
             have hoE5 := hoE.below hW5 nlq
             have hol5 := hol.below hW5 nlq
             have hBw : B < wr.heap.size := hlt HGr.out.pat.box
             have hBw4 : B < w4.heap.size := hlt P4.box
             clear hoE hol P4
             go_upto_region 26 with fail
             try simp only [List.length_nil] at *
             obtain ⟨w5,hw5⟩ : ∃ w5,w5 = ((w4.alloc (.cells #[.int .i64 0, .int .i64 0] 32)).alloc (.cells #[.int .i64 0, .int .i64 0, .slice none 0 0] 35)) := ⟨_,rfl⟩
             rw [<- hw5] at hW5 r17 r18 P5 hoE5 hol5 ⊢
             obtain ⟨P17,hP17⟩ : ∃ P17,P17 = w4.heap.size := ⟨_,rfl⟩
             rw [<- hP17] at r17 r18 hBw4 ⊢
             clear hw5 hW5 hP17
             have hR5 := hRf w5 P5.rf
             obtain ⟨⟨b0,b1,b2,b3,b4,b5,b6,b7,b8⟩,_⟩ := row9 P5.box
             clear hRf
             go_wp2_with fail
             refine hR5.mono ?_
             rintro e w6 ⟨A6,cap6,nm6,m6,hh6,Bs6,bn6,bc6,E6,el6,ec6,rfl,hg6,hl6,hE6,h60⟩
             obtain rfl := hl6.1
             obtain rfl := hE6.1
             clear h60
             have hw56 := hg6.1.size
             have r17 := (hg6.1.block _ (hlt r17)).trans r17
             have r18 := (hg6.1.block _ (hlt r18)).trans r18
             have rb6 := (hg6.1.block _ (hlt P5.box)).trans P5.box
             have hoE6 := hoE5.below hg6.1 nlq
             have hol6 := hol5.below hg6.1 nlq
             clear hR5 b0 b1 b2 b3 b4 b5 b6 b7 b8 hoE5 hol5
             go_upto_region 27 with fail
             have hW7 : Below w6.heap.size w6 ((w6.alloc (.cells #[.int .i64 D2.room, .slice A6 D2.l.length cap6, .bool D2.set, .int .i64 D2.n, .bool D2.lost, .string nm6, .int .i64 m6, .int .i64 (Hd.t hh6), .int .i64 (Hd.v hh6)] 45)).alloc (.cells #[.int .i64 0, .int .i64 0, .int .i64 0, .int .i64 0, .slice Bs6 0 bc6, .slice E6 0 ec6] 47)) := (blq.alloc nlq _).alloc (by simp) _
             have r21 : ((w6.alloc (.cells #[.int .i64 D2.room, .slice A6 D2.l.length cap6, .bool D2.set, .int .i64 D2.n, .bool D2.lost, .string nm6, .int .i64 m6, .int .i64 (Hd.t hh6), .int .i64 (Hd.v hh6)] 45)).alloc (.cells #[.int .i64 0, .int .i64 0, .int .i64 0, .int .i64 0, .slice Bs6 0 bc6, .slice E6 0 ec6] 47)).heap[w6.heap.size]? = some (.cells #[.int .i64 D2.room, .slice A6 D2.l.length cap6, .bool D2.set, .int .i64 D2.n, .bool D2.lost, .string nm6, .int .i64 m6, .int .i64 (Hd.t hh6), .int .i64 (Hd.v hh6)] 45) := (Below.heap_alloc _ _ _ (by simp)).trans (heap_alloc_new _ _)
             have r22 : ((w6.alloc (.cells #[.int .i64 D2.room, .slice A6 D2.l.length cap6, .bool D2.set, .int .i64 D2.n, .bool D2.lost, .string nm6, .int .i64 m6, .int .i64 (Hd.t hh6), .int .i64 (Hd.v hh6)] 45)).alloc (.cells #[.int .i64 0, .int .i64 0, .int .i64 0, .int .i64 0, .slice Bs6 0 bc6, .slice E6 0 ec6] 47)).heap[w6.heap.size + 1]? = some (.cells #[.int .i64 0, .int .i64 0, .int .i64 0, .int .i64 0, .slice Bs6 0 bc6, .slice E6 0 ec6] 47) := heap_alloc2_new _ _ _
             have r17 := (hW7.block _ (hlt r17)).trans r17
             have r18 := (hW7.block _ (hlt r18)).trans r18
             have rb7 := (hW7.block _ (hlt rb6)).trans rb6
             have hoE7 := hoE6.below hW7 nlq
             have hol7 := hol6.below hW7 nlq
             have hl7 := hl6.below hW7 nlq
             have hE7 := hE6.below hW7 nlq
             have hg7 := hg6.step hW7
             have hB6 := hlt rb6
             clear hoE6 hol6 hl6 hE6 hg6 rb6
             try simp only [List.length_nil] at *
             obtain ⟨w7,hw7⟩ : ∃ w7,w7 = ((w6.alloc (.cells #[.int .i64 D2.room, .slice A6 D2.l.length cap6, .bool D2.set, .int .i64 D2.n, .bool D2.lost, .string nm6, .int .i64 m6, .int .i64 (Hd.t hh6), .int .i64 (Hd.v hh6)] 45)).alloc (.cells #[.int .i64 0, .int .i64 0, .int .i64 0, .int .i64 0, .slice Bs6 0 bc6, .slice E6 0 ec6] 47)) := ⟨_,rfl⟩
             rw [<- hw7] at hW7 r21 r22 r17 r18 rb7 hoE7 hol7 hl7 hE7 hg7 ⊢
             have hW7s := hW7.size
             obtain ⟨P21,hP21⟩ : ∃ P21,P21 = w6.heap.size := ⟨_,rfl⟩
             rw [<- hP21] at r21 r22 ⊢
             have hBP : B < P21 := by omega
             clear hw7 hW7 hP21
             obtain ⟨wd,hwd⟩ : ∃ wd,w7.drew = wd := ⟨_,rfl⟩
             have hbd : Below w7.heap.size w7 wd := by rw [<- hwd]; exact blq.drew
             have rd21 := (hbd.block _ (hlt r21)).trans r21
             have rdB := (hbd.block _ (hlt rb7)).trans rb7
             obtain ⟨⟨y0,y1,y2,y3,y4,y5,y6,y7,y8⟩,_⟩ := row9 rd21
             obtain ⟨⟨b0,b1,b2,b3,b4,b5,b6,b7,b8⟩,⟨f0,f1,f2,f3,f4,f5,f6,f7,f8⟩⟩ := row9 rdB
             have hS27 : w7.drew.cell? ⟨P21,0,none⟩ = some (.int .i64 D2.room) /\ w7.drew.cell? ⟨P21,1,none⟩ = some (.slice A6 D2.l.length cap6) /\ w7.drew.cell? ⟨P21,2,none⟩ = some (.bool D2.set) /\ w7.drew.cell? ⟨P21,3,none⟩ = some (.int .i64 D2.n) /\ w7.drew.cell? ⟨P21,4,none⟩ = some (.bool D2.lost) := by rw [hwd]; exact ⟨y0,y1,y2,y3,y4⟩
             have hne27 : P21 ≠ B := by omega
             obtain ⟨w8,HX8,hX8,hs8,far8,box8,cell8⟩ := qdb rdB HGr.out.pat.bG (.int .i64 D2.room) (.slice A6 D2.l.length cap6) (.bool D2.set) (.int .i64 D2.n) (.bool D2.lost)
             have hT27 : w8.cell? ⟨P21,0,none⟩ = some (.int .i64 D2.room) /\ w8.cell? ⟨P21,1,none⟩ = some (.slice A6 D2.l.length cap6) /\ w8.cell? ⟨P21,2,none⟩ = some (.bool D2.set) /\ w8.cell? ⟨P21,3,none⟩ = some (.int .i64 D2.n) /\ w8.cell? ⟨P21,4,none⟩ = some (.bool D2.lost) := ⟨cell8 _ _ _ hne27 y0,cell8 _ _ _ hne27 y1,cell8 _ _ _ hne27 y2,cell8 _ _ _ hne27 y3,cell8 _ _ _ hne27 y4⟩
             have HF8 := Lib.hid far8
             have HB8 := Lib.hid box8
             clear far8 cell8 box8
             refine wp_region_held_drew (S := fun w' => w'.cell? ⟨P21,0,none⟩ = some (.int .i64 D2.room) /\ w'.cell? ⟨P21,1,none⟩ = some (.slice A6 D2.l.length cap6) /\ w'.cell? ⟨P21,2,none⟩ = some (.bool D2.set) /\ w'.cell? ⟨P21,3,none⟩ = some (.int .i64 D2.n) /\ w'.cell? ⟨P21,4,none⟩ = some (.bool D2.lost)) (by kernel_rfl) hS27 (fun hHeld => ?_)
             rw [hwd] at hHeld ⊢
             change wpAnyH _ _ _ _ _ 10 #[false,false,false,false,false,false,false,false,false,false] _ _
             refine tkq 0 ⟨some 191, .move (.tmp 20),27, "law.go:71",#[],none⟩ ?_ ?_ ?_
             rotate_left
             · (intro w h; (try dsimp only at h); go_simp); (try with_reducible rfl)
             try simp only [lpq]
             refine tkq 1 ⟨some 192, .move (.tmp 23),3, "law.go:71",#[⟨5, .gcOnly .lateStores⟩],none⟩ ?_ ?_ ?_
             rotate_left
             · (intro w h; (try dsimp only at h); go_simp); (try with_reducible rfl)
             try simp only [lpq]
             refine tkq 2 ⟨some 193, .fieldAddr 45 (.tmp 21) 0,0, "law.go:71",#[⟨6, .gcOnly .lateStores⟩],none⟩ ?_ ?_ ?_
             rotate_left
             · (intro w h; (try dsimp only at h); go_simp); (try with_reducible rfl)
             try simp only [lpq]
             refine tkq 3 ⟨some 194, .fieldAddr 43 (.tmp 193) 0,0, "law.go:71",#[⟨2, .data⟩,⟨6, .gcOnly .lateStores⟩],none⟩ ?_ ?_ ?_
             rotate_left
             · (intro w h; (try dsimp only at h); go_simp); (try with_reducible rfl)
             try simp only [lpq]
             refine tkq 4 ⟨some 195, .load 41 (.tmp 194),41, "law.go:71",#[⟨3, .data⟩,⟨6, .gcOnly .lateStores⟩],none⟩ ?_ ?_ ?_
             rotate_left
             · (intro w h; (try dsimp only at h); go_simp); (try with_reducible rfl)
             try simp only [lpq]
             refine tkq 5 ⟨some 11, .assign (.tmp 191),27, "law.go:71",#[⟨0, .data⟩,⟨0, .phase⟩,⟨1, .textOnly .lateStores⟩,⟨2, .textOnly .lateStores⟩,⟨3, .textOnly .lateStores⟩,⟨4, .textOnly .lateStores⟩],none⟩ ?_ ?_ ?_
             rotate_left
             · (intro w h; (try dsimp only at h); go_simp); (try with_reducible rfl)
             try simp only [lpq]
             refine tkq 6 ⟨some 14, .assign (.tmp 192),3, "law.go:71",#[⟨1, .data⟩,⟨5, .chain⟩,⟨0, .phase⟩,⟨1, .phase⟩,⟨2, .textOnly .lateStores⟩,⟨3, .textOnly .lateStores⟩,⟨4, .textOnly .lateStores⟩,⟨5, .phase⟩],none⟩ ?_ ?_ ?_
             rotate_left
             · (intro w h; (try dsimp only at h); go_simp); (try with_reducible rfl)
             try simp only [lpq]
             refine tkq 7 ⟨some 196, .fieldAddr 45 (.tmp 12) 0,0, "law.go:71",#[⟨0, .phase⟩,⟨1, .phase⟩,⟨2, .phase⟩,⟨3, .phase⟩,⟨4, .phase⟩,⟨5, .phase⟩,⟨6, .phase⟩],none⟩ ?_ ?_ ?_
             rotate_left
             · (intro w h; (try dsimp only at h); go_simp); (try with_reducible rfl)
             try simp only [lpq]
             refine tkq 8 ⟨some 197, .fieldAddr 43 (.tmp 196) 0,0, "law.go:71",#[⟨7, .data⟩,⟨0, .phase⟩,⟨1, .phase⟩,⟨2, .phase⟩,⟨3, .phase⟩,⟨4, .phase⟩,⟨5, .phase⟩,⟨6, .phase⟩],none⟩ ?_ ?_ ?_
             rotate_left
             · (intro w h; (try dsimp only at h); go_simp); (try with_reducible rfl)
             try simp only [lpq]
             refine wpAnyH_ready (rs := [9]) (by kernel_rfl) (by simp) ?_
             refine AllReadyH.cons rfl (fun KK hK => ?_) AllReadyH.nil
             go_simp
             rw [HX8.out]
             refine hK.out _ _ hT27 (fun hHeld2 => ?_)
             clear hK KK hHeld hT27
             try simp only [lpq]
             refine wpAnyH_done (by kernel_rfl) ?_ _
             clear hHeld2
             have hgd := hg7.step hbd
             have far8 := HF8.out
             have box8 := HB8.out
             clear HF8 HB8 HX8
             have P8 := P5.got hgd hX8 hs8 far8 box8
             have r17 := (far8 _ (by omega)).trans ((hbd.block _ (hlt r17)).trans r17)
             have r18 := (far8 _ (by omega)).trans ((hbd.block _ (hlt r18)).trans r18)
             have r21 := (far8 _ (by omega)).trans rd21
             have r22 := (far8 _ (by omega)).trans ((hbd.block _ (hlt r22)).trans r22)
             have kp8 : ∀ q,q ≠ B -> q < w7.heap.size -> w8.heap[q]? = w7.heap[q]? := fun q h h' => (far8 q h).trans (hbd.block q h')
             have hs78 : w7.heap.size <= w8.heap.size := by rw [hs8]; exact hbd.size
             have hoE8 := hoE7.keep hs78 fun q h h' => kp8 q (by have h'' : wr.heap.size <= q := h'; omega) h
             have hol8 := hol7.keep hs78 fun h0 g off e hg => kp8 g (qei hol7 h0 rb7 (qcZ _ _ _ _ _) g off e) hg
             have hl8 := hl7.keep hs78 fun h0 g off e hg => kp8 g (qei hl7 h0 rb7 (qcZ _ _ _ _ _) g off e) hg
             have hE8 := hE7.keep hs78 fun q h h' => kp8 q (by have h'' : w5.heap.size <= q := h'; have := hlt P5.box; omega) h
             clear hoE7 hol7 hl7 hE7 rd21 rdB y0 y1 y2 y3 y4 y5 y6 y7 y8 b0 b1 b2 b3 b4 b5 b6 b7 b8 f0 f1 f2 f3 f4 f5 f6 f7 f8 P5 hgd hX8 box8 far8 kp8 hg7 rb7
             obtain ⟨Q8,hQ8⟩ : ∃ Q8 : Nat -> Prop,Q8 = (fun k => Q k \/ w5.heap.size <= k /\ k < w8.heap.size) := ⟨_,rfl⟩
             rw [<- hQ8] at P8
             clear hQ8 hs78 hs8 hbd hwd
             have hH := qd7 w8 ⟨0,0⟩ ⟨0,0,[]⟩ none 0 Bs6 bc6 _ _ none 0 E6 ec6 [] hol8 hl8 hoE8 hE8 (Nat.zero_le _)
             dsimp only at hH
             try simp only [List.length_nil] at hH
             obtain ⟨⟨p0,p1⟩,_⟩ := row2 r17
             obtain ⟨⟨q0,q1,q2⟩,_⟩ := row3 r18
             obtain ⟨⟨z0,z1,z2,z3,z4,z5⟩,_⟩ := row6 r22
             go_wp2_with fail
             refine hH.mono ?_
             rintro e w9 ⟨rfl,hb9⟩
             have P9 := P8.below hb9
             have r21 := (hb9.block _ (hlt r21)).trans r21
             clear hH p0 p1 q0 q1 q2 z0 z1 z2 z3 z4 z5 P8 r17 r18 r22 hb9 hol8 hl8 hoE8 hE8
             have Gx : Goes w2 _ (room : Int) (k + 1) v j d D2 was n B A6 cap6 m _ := ⟨P9,P9.ctx.vt.lg.dk.good,HRM.out.trans HGr.out.room,HGr.out.succ.n,HGr.out.succ.m⟩
             clear P9
             have hSame := qcD qbk _ d _ _ _ _ Gx.alike
             obtain ⟨⟨b0,b1,b2,b3,b4,b5,b6,b7,b8⟩,_⟩ := row9 Gx.pat.box
             go_upto_region 32 with fail
             go_wp2_with fail
             refine hSame.mono ?_
             rintro e w9 ⟨rfl,al9,k9⟩
             have G9 := Gx.same al9 k9
             clear hSame b0 b1 b2 b3 b4 b5 b6 b7 b8 al9 k9 Gx
             go_wp2
             go_roundg (gk - 1)
             case measure => have e : k + gk = len0 := HG.out; have := HLT.out; omega
             case rel => exact ⟨k + 1,_,_,_,_,_,_,_,_,_,by have e : k + gk = len0 := HG.out; have := HLT.out; omega,by go_num,rfl,G9⟩
        · have i0 : ((xk : Int) == 0) = false := beq_eq_false_iff_ne.2 (by omega)
          have i1 : ((xk : Int) == 1) = false := beq_eq_false_iff_ne.2 (by omega)
          have i2 : ((xk : Int) == 2) = false := beq_eq_false_iff_ne.2 (by omega)
          have i0' : ((xk : Int) = 0) = False := eq_false (by omega)
          have i1' : ((xk : Int) = 1) = False := eq_false (by omega)
          have i2' : ((xk : Int) = 2) = False := eq_false (by omega)
          clear hk0 hk1 hk2
          as_aux_lemma =>
           by_cases h7 : 7 < xd.kind
           · have i7 : ((7 : Int) < (xd.kind : Int)) = True := eq_true (by omega)
             have Gs := Gr.succ
             clear Gr h7
             generalize xd.kind = dk at *
             go_wp2
             go_roundg (gk - 1)
             case measure => have e : k + gk = len0 := HG.out; have := HLT.out; omega
             case rel => exact ⟨k + 1,_,_,_,_,_,_,_,_,_,by have e : k + gk = len0 := HG.out; have := HLT.out; omega,by go_num,rfl,Gs⟩
           · have i7 : ((7 : Int) < (xd.kind : Int)) = False := eq_false (by omega)
             have hact : qam wr.drew Q xd := ((hinG.act.keeps (qe Gr.pat.ctx.low nlq)).mono fun q hq => Gr.pat.ctx.all q hq).keeps (qe blq.drew nlq)
             have hDo := qmd qbk wr.drew d A cap D Q xd (Gr.below blq.drew).alike hact hfit.2.2.2.2.1 hfit.2.2.2.2.2 hfit.2.2.1 hfit.2.2.2.1 (by omega)
             have hrm := ql4 xd D
             have hnd := hinG.act.n
             clear h7
             generalize xd.on D = D2 at *
             have HRM := Lib.hid hrm
             clear hrm
             obtain ⟨dkind,dname,dto,dbA,dbcap,dbL,dn,dkA,dklen,dkcap,dkY⟩ := xd
             dsimp only at *
             have HGr := Lib.hid Gr
             have hBr := Gr.pat.box
             obtain ⟨⟨b0,b1,b2,b3,b4,b5,b6,b7,b8⟩,⟨f0,f1,f2,f3,f4,f5,f6,f7,f8⟩⟩ := row9 hBr
             go_upto_region 14 with fail
             go_cut [24] (fun ok wx => ok = .bool true /\ ∃ A6 cap6 Q6,Goes w2 wx (room : Int) (k + 1) v j d D2 was n B A6 cap6 m Q6)
             case first =>
              have hS0 : wr.drew.cell? ⟨bq,off + k * 13 + 7,none⟩ = some (.int .u8 (dkind : Int)) /\ wr.drew.cell? ⟨bq,off + k * 13 + 8,none⟩ = some (.string dname) /\ wr.drew.cell? ⟨bq,off + k * 13 + 9,none⟩ = some (.string dto) /\ wr.drew.cell? ⟨bq,off + k * 13 + 10,none⟩ = some (.slice dbA dbL.length dbcap) /\ wr.drew.cell? ⟨bq,off + k * 13 + 11,none⟩ = some (.int .i64 dn) /\ wr.drew.cell? ⟨bq,off + k * 13 + 12,none⟩ = some (.slice dkA dklen dkcap) := ⟨e7,e8,e9,e10,e11,e12⟩
              have HS0 := Lib.hid hS0
              have hbqQ := Gr.pat.ctx.all bq hbq
              have hbqw : bq < wr.heap.size := Nat.lt_of_lt_of_le hbq Gr.pat.ctx.low.size
              have hneB : bq ≠ B := by have := Gr.pat.bG; omega
              clear Gr hact hinG
              refine wp_region_held_drew (S := fun w' => w'.cell? ⟨bq,off + k * 13 + 7,none⟩ = some (.int .u8 (dkind : Int)) /\ w'.cell? ⟨bq,off + k * 13 + 8,none⟩ = some (.string dname) /\ w'.cell? ⟨bq,off + k * 13 + 9,none⟩ = some (.string dto) /\ w'.cell? ⟨bq,off + k * 13 + 10,none⟩ = some (.slice dbA dbL.length dbcap) /\ w'.cell? ⟨bq,off + k * 13 + 11,none⟩ = some (.int .i64 dn) /\ w'.cell? ⟨bq,off + k * 13 + 12,none⟩ = some (.slice dkA dklen dkcap)) (by kernel_rfl) hS0 (fun hHeld => ?_)
              change wpAnyH _ _ _ _ _ 18 #[false,false,false,false,false,false,false,false,false,false,false,false,false,false,false,false,false,false] _ _
              refine tkq 0 ⟨some 88, .move (.tmp 5),26, "law.go:83",#[],none⟩ ?_ ?_ ?_
              rotate_left
              · (intro w h; (try dsimp only at h); go_simp); (try with_reducible rfl)
              try simp only [lpq]
              refine tkq 1 ⟨some 89, .fieldAddr 45 (.tmp 12) 0,0, "law.go:83",#[],none⟩ ?_ ?_ ?_
              rotate_left
              · (intro w h; (try dsimp only at h); go_simp); (try with_reducible rfl)
              try simp only [lpq]
              refine tkq 2 ⟨some 90, .fieldAddr 43 (.tmp 89) 0,0, "law.go:83",#[⟨1, .data⟩],none⟩ ?_ ?_ ?_
              rotate_left
              · (intro w h; (try dsimp only at h); go_simp); (try with_reducible rfl)
              try simp only [lpq]
              refine tkq 4 ⟨some 92, .move (.tmp 1),23, "law.go:83",#[],none⟩ ?_ ?_ ?_
              rotate_left
              · (intro w h; (try dsimp only at h); go_simp); (try with_reducible rfl)
              try simp only [lpq]
              refine tkq 5 ⟨some 93, .move (.tmp 15),3, "law.go:83",#[],none⟩ ?_ ?_ ?_
              rotate_left
              · (intro w h; (try dsimp only at h); go_simp); (try with_reducible rfl)
              try simp only [lpq]
              refine tkq 6 ⟨some 94, .indexAddr 23 (.tmp 92) (.tmp 93),0, "law.go:83",#[⟨4, .data⟩,⟨5, .data⟩],none⟩ ?_ ?_ ?_
              rotate_left
              · (intro w h; (try dsimp only at h); go_simp); (try with_reducible rfl)
              try simp only [lpq]
              refine tkq 7 ⟨some 95, .fieldAddr 55 (.tmp 94) 4,0, "law.go:83",#[⟨6, .data⟩],none⟩ ?_ ?_ ?_
              rotate_left
              · (intro w h; (try dsimp only at h); go_simp); (try with_reducible rfl)
              try simp only [lpq]
              refine tkq 8 ⟨some 96, .load 53 (.tmp 95),53, "law.go:83",#[⟨7, .data⟩],none⟩ ?_ ?_ ?_
              rotate_left
              · (intro w h; (try dsimp only at h); go_simp); (try with_reducible rfl)
              try simp only [lpq]
              refine wpAnyH_ready (rs := [3]) (by kernel_rfl) (by simp) ?_
              refine AllReadyH.cons rfl (fun KK hK => ?_) AllReadyH.nil
              go_simp
              refine hK.out _ _ HS0.out (fun hHeld2 => ?_)
              clear hK KK hHeld
              try simp only [lpq]
              refine wpAnyH_ready (rs := [9]) (by kernel_rfl) (by simp) ?_
              refine AllReadyH.cons rfl (fun KK hK => ?_) AllReadyH.nil
              go_simp
              refine hDo.mono ?_
              rintro e w5 ⟨A5,cap5,Q5,rfl,al5,hz5,k5⟩
              have hB5 := (k5.block B (hlq HGr.out.pat.box) HGr.out.pat.qb.1).trans HGr.out.pat.box
              have hS5 : w5.cell? ⟨bq,off + k * 13 + 7,none⟩ = some (.int .u8 (dkind : Int)) /\ w5.cell? ⟨bq,off + k * 13 + 8,none⟩ = some (.string dname) /\ w5.cell? ⟨bq,off + k * 13 + 9,none⟩ = some (.string dto) /\ w5.cell? ⟨bq,off + k * 13 + 10,none⟩ = some (.slice dbA dbL.length dbcap) /\ w5.cell? ⟨bq,off + k * 13 + 11,none⟩ = some (.int .i64 dn) /\ w5.cell? ⟨bq,off + k * 13 + 12,none⟩ = some (.slice dkA dklen dkcap) := by
               have hx : ∀ o u,wr.drew.cell? ⟨bq,o,none⟩ = some u -> w5.cell? ⟨bq,o,none⟩ = some u := fun o u h => (World.cell?_of_block (k5.block bq hbqw hbqQ)).trans h
               exact ⟨hx _ _ HS0.out.1,hx _ _ HS0.out.2.1,hx _ _ HS0.out.2.2.1,hx _ _ HS0.out.2.2.2.1,hx _ _ HS0.out.2.2.2.2.1,hx _ _ HS0.out.2.2.2.2.2⟩
              have HS5 := Lib.hid hS5
              refine hK.out _ _ hS5 (fun hHeld3 => ?_)
              clear hK KK hHeld2 hDo hS0 hS5 b0 b1 b2 b3 b4 b5 b6 b7 b8 f0 f1 f2 f3 f4 f5 f6 f7 f8 e0 e1 e2 e3 e4 e5 e6 e7 e8 e9 e10 e11 e12
              try simp only [lpq]
              refine tkq 10 ⟨some 87, .move (.tmp 97),61, "law.go:83",#[⟨9, .data⟩],none⟩ ?_ ?_ ?_
              rotate_left
              · (intro w h; (try dsimp only at h); go_simp); (try with_reducible rfl)
              try simp only [lpq]
              refine tkq 11 ⟨some 98, .extract (.tmp 87) 0,26, "law.go:83",#[⟨10, .data⟩],none⟩ ?_ ?_ ?_
              rotate_left
              · (intro w h; (try dsimp only at h); go_simp); (try with_reducible rfl)
              try simp only [lpq]
              refine tkq 12 ⟨some 99, .extract (.tmp 87) 1,41, "law.go:83",#[⟨10, .data⟩],none⟩ ?_ ?_ ?_
              rotate_left
              · (intro w h; (try dsimp only at h); go_simp); (try with_reducible rfl)
              try simp only [lpq]
              refine tkq 13 ⟨some 100, .extract (.tmp 87) 2,4, "law.go:83",#[⟨10, .data⟩,⟨16, .gcOnly .lateStores⟩],none⟩ ?_ ?_ ?_
              rotate_left
              · (intro w h; (try dsimp only at h); go_simp); (try with_reducible rfl)
              try simp only [lpq]
              refine tkq 14 ⟨some 101, .fieldAddr 45 (.tmp 12) 0,0, "law.go:83",#[⟨0, .phase⟩,⟨1, .phase⟩,⟨2, .phase⟩,⟨3, .phase⟩,⟨4, .phase⟩,⟨5, .phase⟩,⟨6, .phase⟩,⟨7, .phase⟩,⟨8, .phase⟩,⟨9, .phase⟩,⟨10, .phase⟩,⟨11, .phase⟩,⟨12, .phase⟩,⟨13, .textOnly .lateStores⟩],none⟩ ?_ ?_ ?_
              rotate_left
              · (intro w h; (try dsimp only at h); go_simp); (try with_reducible rfl)
              try simp only [lpq]
              refine tkq 15 ⟨some 102, .fieldAddr 43 (.tmp 101) 0,0, "law.go:83",#[⟨14, .data⟩,⟨0, .phase⟩,⟨1, .phase⟩,⟨2, .phase⟩,⟨3, .phase⟩,⟨4, .phase⟩,⟨5, .phase⟩,⟨6, .phase⟩,⟨7, .phase⟩,⟨8, .phase⟩,⟨9, .phase⟩,⟨10, .phase⟩,⟨11, .phase⟩,⟨12, .phase⟩,⟨13, .textOnly .lateStores⟩],none⟩ ?_ ?_ ?_
              rotate_left
              · (intro w h; (try dsimp only at h); go_simp); (try with_reducible rfl)
              try simp only [lpq]
              obtain ⟨w6,HX6,hb6,hs6,far6,box6,cell6⟩ := qdb hB5 HGr.out.pat.bG (.int .i64 D2.room) (.slice A5 D2.l.length cap5) (.bool D2.set) (.int .i64 D2.n) (.bool D2.lost)
              have Gx := ((HGr.out.below blq.drew).did al5 hz5 k5 HRM.out hb6 hs6 far6 box6).succ
              have hS6 : w6.cell? ⟨bq,off + k * 13 + 7,none⟩ = some (.int .u8 (dkind : Int)) /\ w6.cell? ⟨bq,off + k * 13 + 8,none⟩ = some (.string dname) /\ w6.cell? ⟨bq,off + k * 13 + 9,none⟩ = some (.string dto) /\ w6.cell? ⟨bq,off + k * 13 + 10,none⟩ = some (.slice dbA dbL.length dbcap) /\ w6.cell? ⟨bq,off + k * 13 + 11,none⟩ = some (.int .i64 dn) /\ w6.cell? ⟨bq,off + k * 13 + 12,none⟩ = some (.slice dkA dklen dkcap) := ⟨cell6 _ _ _ hneB HS5.out.1,cell6 _ _ _ hneB HS5.out.2.1,cell6 _ _ _ hneB HS5.out.2.2.1,cell6 _ _ _ hneB HS5.out.2.2.2.1,cell6 _ _ _ hneB HS5.out.2.2.2.2.1,cell6 _ _ _ hneB HS5.out.2.2.2.2.2⟩
              clear far6 cell6 box6 hb6 hs6
              obtain ⟨⟨p0,p1,p2,p3,p4,p5,p6,p7,p8⟩,⟨q0,q1,q2,q3,q4,q5,q6,q7,q8⟩⟩ := row9 hB5
              refine wpAnyH_ready (rs := [16]) (by kernel_rfl) (by simp) ?_
              refine AllReadyH.cons rfl (fun KK hK => ?_) AllReadyH.nil
              clear al5 hz5 k5
              go_simp
              rw [HX6.out]
              refine hK.out _ _ hS6 (fun hHeld4 => ?_)
              clear hK KK hHeld3 p0 p1 p2 p3 p4 p5 p6 p7 p8 q0 q1 q2 q3 q4 q5 q6 q7 q8
              try simp only [lpq]
              refine tkq 17 ⟨some 24, .assign (.tmp 100),4, "law.go:83",#[⟨13, .data⟩,⟨16, .chain⟩,⟨0, .phase⟩,⟨1, .phase⟩,⟨2, .phase⟩,⟨3, .phase⟩,⟨4, .phase⟩,⟨5, .phase⟩,⟨6, .phase⟩,⟨7, .phase⟩,⟨8, .phase⟩,⟨9, .phase⟩,⟨10, .phase⟩,⟨11, .phase⟩,⟨12, .phase⟩,⟨13, .phase⟩,⟨14, .phase⟩,⟨15, .phase⟩,⟨16, .phase⟩],none⟩ ?_ ?_ ?_
              rotate_left
              · (intro w h; (try dsimp only at h); go_simp); (try with_reducible rfl)
              try simp only [lpq]
              refine wpAnyH_done (by kernel_rfl) ?_ _
              clear hHeld4 hS6 HS5 HS0
              go_wp2_with fail
              go_meet
              exact ⟨rfl,_,_,_,Gx⟩
             case rest =>
              clear e0 e1 e2 e3 e4 e5 e6 e7 e8 e9 e10 e11 e12 b0 b1 b2 b3 b4 b5 b6 b7 b8 f0 f1 f2 f3 f4 f5 f6 f7 f8 hDo hact Gr hBr HGr
              obtain ⟨rfl,A6,cap6,Q6,Gx⟩ := hcut
              have hSame := qcD qbk _ d _ _ _ _ Gx.alike
              obtain ⟨⟨b0,b1,b2,b3,b4,b5,b6,b7,b8⟩,_⟩ := row9 Gx.pat.box
              go_upto_region 32 with fail
              go_wp2_with fail
              refine hSame.mono ?_
              rintro e w9 ⟨rfl,al9,k9⟩
              have G9 := Gx.same al9 k9
              clear hSame b0 b1 b2 b3 b4 b5 b6 b7 b8 al9 k9 Gx
              go_wp2
              go_roundg (gk - 1)
              case measure => have e : k + gk = len0 := HG.out; have := HLT.out; omega
              case rel => exact ⟨k + 1,_,_,_,_,_,_,_,_,_,by have e : k + gk = len0 := HG.out; have := HLT.out; omega,by go_num,rfl,G9⟩
  · obtain rfl : k = len0 := by omega
    have hdec : decide ((k : Int) < (k : Int)) = false := decide_eq_false (by omega)
    have hlow := Gr.pat.ctx.low
    clear Gr hkg hlt1
    go_wp2
    go_ret
    exact ⟨rfl,hbw.trans (hlow.mono hbw.size)⟩
end Go.Proofs.YtmeoooojmhhahaaGreat.vauPlays
