/- The program's take and Get, by their contracts: with the room of the bytes. (Written by mkfromp.py.) -/
import Derived.Test.YtmeoooojmhhahaaGreatTVauP2
set_option linter.unusedVariables false
set_option linter.unusedSimpArgs false
set_option maxRecDepth 100000
set_option maxHeartbeats 3200000
namespace Go.Proofs.YtmeoooojmhhahaaGreat
open Go.RowKit
theorem qjg (w : World) (i : Nat) (s : St) (Z : Nat -> Prop) (most : Int) (hm : -9223372036854775808 <= most /\ most <= 9223372036854775807) (h : In w i s Z) (hZ : ∀ k,w.heap.size <= k -> Z k) (hL : left s <= 140737488355328) :
 Calls Tryz.prog 159 #[.pointer (some ⟨i,0,none⟩), .int .i64 most] w fun e w' => ∃ D n c,e = .returned (entV (qI s most).i (qI s most).t D n c) /\ Lies w' D n c (qI s most).d /\ (0 < n -> ∀ g off,D = some ⟨g,off,none⟩ -> w.heap.size <= g) /\ In w' i (qI s most).s Z /\ qc Z w w' /\ c <= maxLen := by
 have h1 := h.below ((Below.refl w.heap.size w).alloc nlq (.cells #[.int .i64 0, .int .i64 0, .slice none 0 0] 69)) nlq
 have hr1 := heap_alloc_new w (.cells #[.int .i64 0, .int .i64 0, .slice none 0 0] 69)
 have hk1 : qc Z w (w.alloc (.cells #[.int .i64 0, .int .i64 0, .slice none 0 0] 69)) := qG _ _
 have hs1 : w.heap.size < (w.alloc (.cells #[.int .i64 0, .int .i64 0, .slice none 0 0] 69)).heap.size := by simp
 have hzb : Z w.heap.size := hZ _ nlq
 have hib : i ≠ w.heap.size := Nat.ne_of_lt h.lt
 have hN1 := fun W hW => qby W i s Z hW
 have hL1 := qar s 8 hL
 unfold qI
 generalize numberN s 8 = t1 at *
 obtain ⟨n1,s1⟩ := t1
 dsimp only at *
 have hN2 := fun W hW => qby W i s1 Z hW
 have hL2 := qar s1 8 hL1
 generalize numberN s1 8 = t2 at *
 obtain ⟨n2,s2⟩ := t2
 dsimp only at *
 have hT := fun W hW => qel most hm W i s2 Z hW hL2
 generalize qaY s2 most = t3 at *
 obtain ⟨d,s3⟩ := t3
 dsimp only at *
 rw [IntWalk.i64_left,IntWalk.i64_left] at *
 generalize wrap64 (n1 : Int) = z1 at *
 generalize wrap64 (n2 : Int) = z2 at *
 clear hL hL1 hL2 hm h
 go_enter Tryz.func159,Tryz.ntmps159
 go_wp2_with fail
 refine (hN1 _ h1).mono ?_
 rintro e w1 ⟨rfl,h2,k2⟩
 have hr2 := (k2.block w.heap.size hs1 hzb).trans hr1
 clear h1 hN1
 go_wp2_with fail
 refine (hN2 _ h2).mono ?_
 rintro e w2 ⟨rfl,h3,k3⟩
 have hr3 := (k3.block w.heap.size (hlt hr2) hzb).trans hr2
 clear h2 hN2
 go_wp2_with fail
 refine (hT _ h3).mono ?_
 rintro e w3 ⟨D,n,c,rfl,hl4,ho4,h4,k4⟩
 have hcm : c <= maxLen := qcx ho4
 have hr4 := (k4.block w.heap.size (hlt hr3) hzb).trans hr3
 obtain ⟨⟨a0,a1,a2⟩,⟨f0,f1,f2⟩⟩ := row3 hr4
 have hkw : qc Z w w3 := ((hk1.trans k2).trans k3).trans k4
 have hD2 : w.heap.size < w2.heap.size := hlt hr3
 have hDz : 0 < n -> ∀ g off,D = some ⟨g,off,none⟩ -> w.heap.size < g := fun h0 g off e => by
  subst e
  exact Nat.lt_of_lt_of_le hD2 (ho4.lt g rfl).1
 have hfin := Set3.fin (.int .i64 z1) (.int .i64 z2) (.slice D n c) hib hr4 h4 hzb hl4 hDz
 clear hT h3 k2 k3 k4 hk1 hr1 hr2 hr3 h4 hl4 ho4 hr4
 go_wp2
 generalize hX : ((w3.setCell ⟨w.heap.size,0,none⟩ (.int .i64 z1)).setCell ⟨w.heap.size,1,none⟩ (.int .i64 z2)).setCell ⟨w.heap.size,2,none⟩ (.slice D n c) = X at *
 refine bodyPost_ret (qQ (n := w.heap.size) rfl rfl hfin.row Tryz.underlying69 rfl (by kernel_rfl)) rfl ?_
 exact ⟨D,n,c,rfl,hfin.lies,fun h0 g off e => Nat.le_of_lt (hDz h0 g off e),hfin.inn,hkw.own3 hfin.keeps,hcm⟩
theorem qkm (w : World) (i : Nat) (s : St) (Z : Nat -> Prop) (h : In w i s Z) (hZ : ∀ k,w.heap.size <= k -> Z k) (hL : left s <= 140737488355328) :
 Calls Tryz.prog 138 #[.pointer (some ⟨i,0,none⟩)] w fun e w' => ∃ D n c,e = .returned (entV (fromN rightB s 12000).i (fromN rightB s 12000).t D n c) /\ Lies w' D n c (fromN rightB s 12000).d /\ (0 < n -> ∀ g off,D = some ⟨g,off,none⟩ -> w.heap.size <= g) /\ In w' i (fromN rightB s 12000).s Z /\ qc Z w w' /\ c <= maxLen := by
 have h1 := h.below ((Below.refl w.heap.size w).alloc nlq (.cells #[.int .i64 0, .int .i64 0, .slice none 0 0] 69)) nlq
 have hr1 := heap_alloc_new w (.cells #[.int .i64 0, .int .i64 0, .slice none 0 0] 69)
 have hk1 : qc Z w (w.alloc (.cells #[.int .i64 0, .int .i64 0, .slice none 0 0] 69)) := qG _ _
 have hs1 : (w.alloc (.cells #[.int .i64 0, .int .i64 0, .slice none 0 0] 69)).heap.size = w.heap.size + 1 := by simp
 have hzb : Z w.heap.size := hZ _ nlq
 have hib : i ≠ w.heap.size := Nat.ne_of_lt h.lt
 have hT := fun W (hW : In W i s Z) (hZ : ∀ k,W.heap.size <= k -> Z k) => qjg W i s Z 12000 (by omega) hW hZ hL
 unfold fromN
 generalize qI s 12000 = T at *
 obtain ⟨ti,tt,td,ts⟩ := T
 dsimp only at *
 obtain ⟨R,hR⟩ : ∃ R : FromL,R = if ts = none then ⟨0,0,[],none⟩ else if rightB ti tt td.length = true then ⟨ti,tt,td,ts⟩ else ⟨0,0,[],none⟩ := ⟨_,rfl⟩
 rw [<- hR]
 clear hL h
 go_enter Tryz.func138,Tryz.ntmps138
 go_wp2_with fail
 refine (hT _ h1 (fun k hk => hZ k (by omega))).mono ?_
 rintro e w1 ⟨D,n,c,rfl,hl1,hD1,h2,k2,hcm⟩
 have hr2 := (k2.block w.heap.size (by omega) hzb).trans hr1
 have hlb : w.heap.size < w1.heap.size := hlt hr2
 have hD0 : 0 < n -> ∀ g off,D = some ⟨g,off,none⟩ -> w.heap.size < g := fun h0 g off e => by have := hD1 h0 g off e; omega
 have hDz : 0 < n -> ∀ g off,D = some ⟨g,off,none⟩ -> Z g := fun h0 g off e => hZ g (Nat.le_of_lt (hD0 h0 g off e))
 have hkw1 : qc Z w w1 := hk1.trans k2
 have hn := hl1.1
 rw [hn] at hR
 have hZ1 : Z w1.heap.size := hZ _ (Nat.le_of_lt hlb)
 clear hT h1 k2 hk1 hr1 hs1 hD1 hn
 -- the entry in a block of its own
 have hA1 := (Below.refl w1.heap.size w1).alloc nlq (.cells #[.int .i64 ti, .int .i64 tt, .slice D n c] 69)
 have h3 := h2.below hA1 nlq
 have hr3 := (hA1.block w.heap.size hlb).trans hr2
 have hq3 := heap_alloc_new w1 (.cells #[.int .i64 ti, .int .i64 tt, .slice D n c] 69)
 have hl3 := hl1.below hA1 nlq
 have hkw3 : qc Z w (w1.alloc (.cells #[.int .i64 ti, .int .i64 tt, .slice D n c] 69)) := hkw1.trans (qG _ _)
 clear h2 hl1 hA1 hr2 hkw1
 have hP := fun W => qcM ti tt D n c W
 generalize rightB ti tt n = r at *
 obtain ⟨⟨a0,a1,a2⟩,_⟩ := row3 hq3
 go_wp2_with fail
 refine (hP _).mono ?_
 rintro e w2 ⟨rfl,hb2⟩
 have h4 := h3.below hb2 nlq
 have hr4 := (hb2.block _ (hlt hr3)).trans hr3
 have hq4 := (hb2.block _ (hlt hq3)).trans hq3
 have hl4 := hl3.below hb2 nlq
 have hkw4 : qc Z w w2 := hkw3.trans (qe hb2 nlq)
 clear h3 hr3 hq3 hl3 hkw3 hb2 a0 a1 a2 hP
 have hS := qdM r w2 i ts Z h4
 go_wp2_with fail
 refine hS.mono ?_
 rintro e w3 ⟨rfl,h5,k5⟩
 have hr5 := (k5.block _ (hlt hr4) hzb).trans hr4
 have hq5 := (k5.block _ (hlt hq4) hZ1).trans hq4
 have hl5 := hl4.keeps k5 hDz
 have hkw5 : qc Z w w3 := hkw4.trans k5
 clear hS h4 hr4 hq4 hl4 hkw4 k5
 obtain ⟨⟨a0,a1,a2⟩,⟨f0,f1,f2⟩⟩ := row3 hr5
 obtain ⟨⟨b0,b1,b2⟩,_⟩ := row3 hq5
 by_cases hyes : r = true /\ ∃ sl,ts = some sl
 · obtain ⟨rfl,sl,rfl⟩ := hyes
   rw [if_neg (by simp),if_pos rfl] at hR
   rw [if_pos rfl] at h5
   have hfin := Set3.fin (.int .i64 ti) (.int .i64 tt) (.slice D n c) hib hr5 h5 hzb hl5 hD0
   have HR := Lib.hid hR
   clear hR hr5 hq5 h5 hl5
   simp only [Option.isSome,Bool.true_and] at *
   go_wp2
   generalize hX : ((w3.setCell ⟨w.heap.size,0,none⟩ (.int .i64 ti)).setCell ⟨w.heap.size,1,none⟩ (.int .i64 tt)).setCell ⟨w.heap.size,2,none⟩ (.slice D n c) = X at *
   refine bodyPost_ret (qQ (n := w.heap.size) rfl rfl hfin.row Tryz.underlying69 rfl (by kernel_rfl)) rfl ?_
   have e : R = _ := HR
   rw [e]
   exact ⟨D,n,c,rfl,hfin.lies,fun h0 g off e => Nat.le_of_lt (hD0 h0 g off e),hfin.inn,hkw5.own3 hfin.keeps,hcm⟩
 · have hno : (r && ts.isSome) = false := by
    cases r with
    | false => rfl
    | true =>
      cases ts with
      | none => rfl
      | some l => exact absurd ⟨rfl,l,rfl⟩ hyes
   have hRz : R = ⟨0,0,[],none⟩ := by
    rw [hR]
    cases r with
    | false => split <;> rfl
    | true =>
      cases ts with
      | none => rfl
      | some l => exact absurd ⟨rfl,l,rfl⟩ hyes
   have hsz : (if r = true then ts else none) = none := by
    cases r with
    | false => rfl
    | true =>
      cases ts with
      | none => rfl
      | some l => exact absurd ⟨rfl,l,rfl⟩ hyes
   rw [hsz] at h5
   have hfin := Set3.fin (.int .i64 0) (.int .i64 0) (.slice none 0 0) hib hr5 h5 hzb (Lies.nil w3) (fun h0 => absurd h0 (by omega))
   have HR := Lib.hid hRz
   clear hR hr5 hq5 h5 hl5 hyes hsz hRz
   generalize (r && ts.isSome) = q at *
   subst hno
   go_wp2
   generalize hX : ((w3.setCell ⟨w.heap.size,0,none⟩ (.int .i64 0)).setCell ⟨w.heap.size,1,none⟩ (.int .i64 0)).setCell ⟨w.heap.size,2,none⟩ (.slice none 0 0) = X at *
   refine bodyPost_ret (qQ (n := w.heap.size) rfl rfl hfin.row Tryz.underlying69 rfl (by kernel_rfl)) rfl ?_
   have e : R = _ := HR
   rw [e]
   exact ⟨none,0,0,rfl,hfin.lies,fun h0 => absurd h0 (by omega),hfin.inn,hkw5.own3 hfin.keeps,Nat.zero_le _⟩
end Go.Proofs.YtmeoooojmhhahaaGreat
namespace Go.Proofs.YtmeoooojmhhahaaGreat
open Go.RowKit
def qmi (w : World) (b B : Nat) (p : Option (Hd × List Ent)) (e : Ending) (w' : World) : Prop :=
 qc (· < B) w w' /\ match p with
  | some p => e = .returned (.bool true) /\ ∃ A' c',Tld w' b B p.1 A' c' p.2
  | none => e = .returned (.bool false)
theorem Tld.keeps {w w' : World} {Z : Nat -> Prop} {b B : Nat} {h : Hd} {A : Option Addr} {c : Nat} {l : List Ent} (hT : Tld w b B h A c l) (hk : qc Z w w') (hz : ∀ k,k < w.heap.size -> Z k) : Tld w' b B h A c l :=
 ⟨(hk.block _ (hlt hT.box) (hz _ (hlt hT.box))).trans hT.box,hT.row.keep hk.size fun k h1 _ => hk.block k h1 (hz k h1),hT.lo⟩
theorem Tld.hard {w : World} {b B : Nat} {h : Hd} {A : Option Addr} {c : Nat} {l : List Ent} (hT : Tld w b B h A c l) (t v : Int) : Tld ((w.setCell ⟨b,0,none⟩ (.int .i64 t)).setCell ⟨b,1,none⟩ (.int .i64 v)) b B ⟨t,v⟩ A c l := by
 refine ⟨?_,hT.row.keep (by simp) fun k _ hy => (Below.heap_setCell _ _ _ _ (by exact hy.2)).trans (Below.heap_setCell _ _ _ _ (by exact hy.2)),hT.lo⟩
 have h1 := setCell_at w ⟨b,0,none⟩ (.int .i64 t) _ _ _ rfl hT.box
 exact setCell_at _ ⟨b,1,none⟩ (.int .i64 v) _ _ _ rfl h1
theorem qgM (q : Hd × List Ent) (r : List UInt8) (k : Nat) (s : St) (hk : numberN (some r) 1 = (k,s)) (h1 : k = 1) : tellOne q r = if (hardFromN s).s = some [] then some (⟨(hardFromN s).t,(hardFromN s).v⟩,q.2) else none := by
 unfold tellOne
 rw [hk,if_pos h1]
theorem qhA (q : Hd × List Ent) (r : List UInt8) (k : Nat) (s : St) (hk : numberN (some r) 1 = (k,s)) (h2 : k = 2) : tellOne q r = if (fromN rightB s 12000).s = some [] then (putE q.2 ⟨(fromN rightB s 12000).i,(fromN rightB s 12000).t,(fromN rightB s 12000).d⟩).map fun l => (q.1,l) else none := by
 unfold tellOne
 rw [hk,if_neg (by simp; omega),if_pos h2]
theorem qia (q : Hd × List Ent) (r : List UInt8) (k : Nat) (s : St) (hk : numberN (some r) 1 = (k,s)) (h1 : k ≠ 1) (h2 : k ≠ 2) : tellOne q r = none := by
 unfold tellOne
 rw [hk,if_neg h1,if_neg h2]
theorem qjh (w : World) (b B : Nat) (h : Hd) (A : Option Addr) (c : Nat) (l : List Ent) (R : Option Addr) (rc : Nat) (r : List UInt8) (hT : Tld w b B h A c l) (hg : qW l) (hlen : l.length <= 100000) (hr : Lies w R r.length rc r) (hr6 : r.length <= 1000000) :
 Calls Tryz.prog 92 #[.pointer (some ⟨b,0,none⟩), .slice R r.length rc] w (qmi w b B (tellOne (h,l) r)) := by
 have hN := qf1 R r.length rc r w (· < w.heap.size) (fun k hk => hk) hr (by omega)
 have hB := fun W i Z hW => qiE W i (some r) Z hW
 have hL1 := qar (some r) 1 (show left (some r) <= 140737488355328 by show r.length <= _; omega)
 have hbw := hlt hT.box
 have hlo := hT.lo
 obtain ⟨p,hp⟩ : ∃ p,Hid (tellOne (h,l) r = p) := ⟨_,⟨rfl⟩⟩
 rw [hp.out]
 have hlt1 := qbc (some r) 1
 obtain ⟨kd,s,hks⟩ : ∃ kd s,numberN (some r) 1 = (kd,s) := ⟨_,_,rfl⟩
 rw [hks] at hB hL1 hlt1
 dsimp only at hB hL1 hlt1
 have hkd : kd < 256 := hlt1
 have t1 := qgM (h,l) r kd s hks
 have t2 := qhA (h,l) r kd s hks
 have t3 := qia (h,l) r kd s hks
 rw [hp.out] at t1 t2 t3
 have HT := Lib.hid hT
 clear hT hr hlt1 hks
 by_cases h1 : kd = 1
 · have HPT := Lib.hid (t1 h1)
   subst h1
   have hGH := fun W i Z hW hZ => qkX W i s Z hW hZ
   obtain ⟨⟨ft,fv,fs⟩,hF⟩ : ∃ F,hardFromN s = F := ⟨_,rfl⟩
   rw [hF] at hGH
   have HF := Lib.hid hF
   dsimp only at hGH
   clear t1 t2 t3 hF
   go_enter Tryz.func92,Tryz.ntmps92
   go_wp2_with fail
   refine hN.mono ?_
   rintro e w1 ⟨i,rfl,hin1,hb1⟩
   have hB1 := hB w1 i _ hin1
   clear hN hB hin1
   go_wp2_with fail
   refine hB1.mono ?_
   rintro e w2 ⟨rfl,hin2,k2⟩
   have hs12 := Nat.le_trans hb1.size k2.size
   have hin2' := hin2.out (Z' := fun k => k < w.heap.size \/ w2.heap.size <= k) (fun k hk => hk)
   have hk2 : qc (· < w.heap.size) w w2 := (qe hb1 nlq).trans k2
   have hG2 := hGH w2 i _ hin2' (fun k hk => .inr hk)
   clear hB1 hin2 hin2' hGH k2 hb1
   go_wp2_with fail
   refine hG2.mono ?_
   rintro e w3 ⟨rfl,hin3,k3⟩
   have hk3 : qc (· < w.heap.size) w w3 := hk2.trans (k3.mono fun k hk => .inl hk)
   have hT3 := (show Tld w b B h A c l from HT).keeps hk3 fun k hk => hk
   have hT4 := hT3.hard ft fv
   have hk4 : qc (· < B) w ((w3.setCell ⟨b,0,none⟩ (.int .i64 ft)).setCell ⟨b,1,none⟩ (.int .i64 fv)) := ((hk3.mono fun k hk => Nat.lt_of_lt_of_le hk (Nat.le_trans hlo (Nat.le_of_lt hbw))).trans (qo _ _ _ (by show ¬ b < B; omega))).trans (qo _ _ _ (by show ¬ b < B; omega))
   have hin4 : In ((w3.setCell ⟨b,0,none⟩ (.int .i64 ft)).setCell ⟨b,1,none⟩ (.int .i64 fv)) i fs (fun k => k < w.heap.size \/ w2.heap.size <= k) := hin3.keep (by simp) fun k _ hz => (Below.heap_setCell _ _ _ _ (by show k ≠ b; intro e; exact hz (.inl (by omega)))).trans (Below.heap_setCell _ _ _ _ (by show k ≠ b; intro e; exact hz (.inl (by omega))))
   have hD4 := qeG _ i fs _ hin4
   obtain ⟨⟨b0,b1,b2⟩,⟨f0,f1,f2⟩⟩ := row3 hT3.box
   have HT4 := Lib.hid hT4
   have HK4 := Lib.hid hk4
   clear hG2 hin3 k3 hk3 hT3 hT4 hk4 hin4 hk2
   obtain ⟨q,hq⟩ : ∃ q,Hid (decide (fs = some []) = q) := ⟨_,⟨rfl⟩⟩
   rw [hq.out] at hD4
   go_wp2_with (first
    | (go_at_call 134
       refine hD4.mono ?_
       rintro e w5 ⟨rfl,rfl⟩)
    | fail)
   go_ret
   have e1 : hardFromN s = _ := HF
   have e2 : p = _ := HPT
   rw [e1] at e2
   dsimp only at e2
   cases q with
   | true =>
     rw [if_pos (of_decide_eq_true hq.out)] at e2
     rw [e2]
     exact ⟨HK4,rfl,A,c,HT4⟩
   | false =>
     rw [if_neg (of_decide_eq_false hq.out)] at e2
     rw [e2]
     exact ⟨HK4,rfl⟩
 · have h1' : ((kd : Int) == 1) = false := by simp; omega
   have h1'' : ((kd : Int) = 1) = False := eq_false (by omega)
   by_cases h2 : kd = 2
   · have HPT := Lib.hid (t2 h2)
     subst h2
     have hGE := fun W i Z hW hZ => qkm W i s Z hW hZ hL1
     have hright := fun (hs : (fromN rightB s 12000).s ≠ none) => qb0 hs
     obtain ⟨⟨fi,ft,fd,fs⟩,hF⟩ : ∃ F,fromN rightB s 12000 = F := ⟨_,rfl⟩
     rw [hF] at hGE hright
     have HF := Lib.hid hF
     have HRI := Lib.hid hright
     dsimp only at hGE
     clear t1 t2 t3 hF h1 h1' h1'' hright hL1
     go_enter Tryz.func92,Tryz.ntmps92
     go_wp2_with fail
     refine hN.mono ?_
     rintro e w1 ⟨i,rfl,hin1,hb1⟩
     have hB1 := hB w1 i _ hin1
     clear hN hB hin1
     go_wp2_with fail
     refine hB1.mono ?_
     rintro e w2 ⟨rfl,hin2,k2⟩
     have hs12 := Nat.le_trans hb1.size k2.size
     have hin2' := hin2.out (Z' := fun k => k < w.heap.size \/ w2.heap.size <= k) (fun k hk => hk)
     have hk2 : qc (· < w.heap.size) w w2 := (qe hb1 nlq).trans k2
     have hG2 := hGE w2 i _ hin2' (fun k hk => .inr hk)
     clear hB1 hin2 hin2' hGE k2 hb1
     go_wp2_with fail
     refine hG2.mono ?_
     rintro e w3 ⟨D,n,dc,rfl,hlD,hDn,hin3,k3,hdc⟩
     have hn := hlD.1
     subst hn
     have hk3 : qc (· < w.heap.size) w w3 := hk2.trans (k3.mono fun k hk => .inl hk)
     have hA4 : Below w3.heap.size w3 (w3.alloc (.cells #[.int .i64 fi, .int .i64 ft, .slice D fd.length dc] 69)) := blq.alloc nlq _
     have hk4 : qc (· < w.heap.size) w (w3.alloc (.cells #[.int .i64 fi, .int .i64 ft, .slice D fd.length dc] 69)) := hk3.trans (qe hA4 nlq)
     have hin4 := hin3.below hA4 nlq
     have hT4 := (show Tld w b B h A c l from HT).keeps hk4 fun k hk => hk
     have hl4 := hlD.below hA4 nlq
     have hr4 := heap_alloc_new w3 (.cells #[.int .i64 fi, .int .i64 ft, .slice D fd.length dc] 69)
     have hD4 := qeG _ i fs _ hin4
     have hrow := (show Tld w b B h A c l from HT).row
     have hkB : qc (· < B) w (w3.alloc (.cells #[.int .i64 fi, .int .i64 ft, .slice D fd.length dc] 69)) := hk4.mono fun k hk => Nat.lt_of_lt_of_le hk (Nat.le_trans hlo (Nat.le_of_lt hbw))
     have HKB := Lib.hid hkB
     have hrlt : ∀ g,(Value.slice A l.length c).ownBlock = some g -> g < w.heap.size := fun g hg => by
      obtain ⟨xs,ho,_⟩ := hrow
      exact (ho.lt g hg).2
     have hdz : 0 < fd.length -> ∀ q o,D = some ⟨q,o,none⟩ -> B <= q /\ (Value.slice A l.length c).ownBlock ≠ some q /\ q ≠ b := fun h0 q o e => by
      have := hDn h0 q o e
      exact ⟨by omega,fun er => by have := hrlt q er; omega,by omega⟩
     have hP := fun hx => qkj _ b B h A c l ⟨fi,ft,fd⟩ D dc hT4 hx hg hlen hl4 hdc hdz
     clear hG2 hin3 k3 hk3 hk4 hin4 hk2 hA4 hlD hDn hT4 hl4 hrow hrlt hkB hdz
     by_cases hd : fs = some []
     · rw [decide_eq_true hd] at hD4
       have hx : rightE ⟨fi,ft,fd⟩ = true := HRI (by rw [hd]; simp)
       have hP4 := hP hx
       have HD := Lib.hid hd
       obtain ⟨⟨a0,a1,a2⟩,_⟩ := row3 hr4
       clear hP hd hr4
       go_wp2_with fail
       refine hD4.mono ?_
       rintro e w5 ⟨rfl,rfl⟩
       go_wp2_with fail
       refine hP4.mono ?_
       rintro e w6 hp6
       have e1 : fromN rightB s 12000 = _ := HF
       have e2 : p = _ := HPT
       have e3 : fs = some [] := HD
       rw [e1] at e2
       dsimp only at e2
       rw [if_pos e3] at e2
       obtain ⟨k6,hp6⟩ := hp6
       cases hpe : putE l ⟨fi,ft,fd⟩ with
       | some m =>
         rw [hpe] at hp6 e2
         obtain ⟨rfl,A6,c6,hT6⟩ := hp6
         have HE := Lib.hid e2
         have HT6 := Lib.hid hT6
         have HK6 := Lib.hid k6
         clear hD4 hP4 hT6 k6 e2 e1 e3 hpe a0 a1 a2
         go_wp2
         go_ret
         have e2 : p = _ := HE
         rw [e2]
         exact ⟨qc.trans HKB HK6,rfl,A6,c6,HT6⟩
       | none =>
         rw [hpe] at hp6 e2
         obtain rfl := hp6
         have HE := Lib.hid e2
         have HK6 := Lib.hid k6
         clear hD4 hP4 k6 e2 e1 e3 hpe a0 a1 a2
         go_wp2
         go_ret
         have e2 : p = _ := HE
         rw [e2]
         exact ⟨qc.trans HKB HK6,rfl⟩
     · rw [decide_eq_false hd] at hD4
       have HD := Lib.hid hd
       clear hP hd hr4
       go_wp2_with fail
       refine hD4.mono ?_
       rintro e w5 ⟨rfl,rfl⟩
       go_wp2
       go_ret
       have e1 : fromN rightB s 12000 = _ := HF
       have e2 : p = _ := HPT
       have e3 : ¬ fs = some [] := HD
       rw [e1] at e2
       dsimp only at e2
       rw [if_neg e3] at e2
       rw [e2]
       exact ⟨HKB,rfl⟩
   · have h2' : ((kd : Int) == 2) = false := by simp; omega
     have h2'' : ((kd : Int) = 2) = False := eq_false (by omega)
     have HPT := Lib.hid (t3 h1 h2)
     clear t1 t2 t3 h1 h2
     go_enter Tryz.func92,Tryz.ntmps92
     go_wp2_with fail
     refine hN.mono ?_
     rintro e w1 ⟨i,rfl,hin1,hb1⟩
     have hB1 := hB w1 i _ hin1
     clear hN hB hin1
     go_wp2_with fail
     refine hB1.mono ?_
     rintro e w2 ⟨rfl,hin2,k2⟩
     have hk2 : qc (· < w.heap.size) w w2 := (qe hb1 nlq).trans k2
     have HKB := Lib.hid (hk2.mono (Z' := (· < B)) fun k hk => Nat.lt_of_lt_of_le hk (Nat.le_trans hlo (Nat.le_of_lt hbw)))
     clear hB1 hin2 k2 hb1 hk2
     go_wp2
     go_ret
     have e2 : p = none := HPT
     rw [e2]
     exact ⟨HKB,rfl⟩
def qiy (w : World) (ls : List (List UInt8)) (e : Ending) (w' : World) : Prop :=
 Below w.heap.size w w' /\ match tells ls with
  | some p => ∃ A c,e = .returned (.tuple #[.agg #[.int .i64 p.1.t, .int .i64 p.1.v, .slice A p.2.length c], .bool true]) /\ qF w' w.heap.size (w.heap.size <= ·) (.slice A p.2.length c) p.2 /\ p.2.length <= ls.length
  | none => e = .returned (.tuple #[.agg #[.int .i64 0, .int .i64 0, .slice none 0 0], .bool false])
structure RpAt (w wr : World) (ls : List (List UInt8)) (k : Nat) (p : Hd × List Ent) (A : Option Addr) (c : Nat) : Prop where
 tells : qA (hd0,[]) (ls.take k) = some p
 few : p.2.length <= k
 tld : Tld wr (w.heap.size + 1) (w.heap.size + 1) p.1 A c p.2
 res : wr.heap[w.heap.size]? = some (.cells #[.int .i64 0, .int .i64 0, .slice none 0 0] 101)
 below : Below w.heap.size w wr
theorem RpAt.start (w : World) (ls : List (List UInt8)) : RpAt w ((w.alloc (.cells #[.int .i64 0, .int .i64 0, .slice none 0 0] 101)).alloc (.cells #[.int .i64 0, .int .i64 (-1), .slice none 0 0] 101)) ls 0 (hd0,[]) none 0 := by
 refine ⟨rfl,nlq,⟨heap_alloc2_new _ _ _,qF.nil _ _ _,nlq⟩,(Below.heap_alloc _ _ _ (by simp)).trans (heap_alloc_new _ _),(blq.alloc nlq _).alloc (by simp) _⟩
theorem qib (q : Hd × List Ent) (ls : List (List UInt8)) (k : Nat) (hk : k < ls.length) (p : Hd × List Ent) (h : qA q (ls.take k) = some p) :
 qA q (ls.take (k + 1)) = tellOne p ls[k] /\ qA q ls = (tellOne p ls[k]).bind fun p => qA p (ls.drop (k + 1)) := by
 have e1 : ls.take (k + 1) = ls.take k ++ [ls[k]] := List.take_succ_eq_append_getElem hk
 have e2 : ls = ls.take k ++ ls[k] :: ls.drop (k + 1) := by rw [List.getElem_cons_drop,List.take_append_drop]
 constructor
 · rw [e1,qbJ,h]
   show qA p [ls[k]] = _
   rw [qa3]
   cases tellOne p ls[k] <;> rfl
 · have e3 : qA q ls = qA q (ls.take k ++ ls[k] :: ls.drop (k + 1)) := by rw [<- e2]
   rw [e3,qbJ,h]
   show qA p (ls[k] :: ls.drop (k + 1)) = _
   rw [qa3]
theorem qic {l m : List Ent} {e : Ent} (h : putE l e = some m) : m.length <= l.length + 1 := by
 have key : m = [e] \/ m = l.filter (fun g => decide (g.i < e.i)) ++ [e] := by
  have hin : ∀ b : Bool,(if b = true then some [e] else (match (l.filter fun g => decide (g.i < e.i)).getLast? with | none => some [e] | some f => if f.i = e.i - 1 /\ f.t <= e.t then some (l.filter (fun g => decide (g.i < e.i)) ++ [e]) else none)) = some m -> m = [e] \/ m = l.filter (fun g => decide (g.i < e.i)) ++ [e] := by
   intro b h
   cases b with
   | true => injection h with h; exact .inl h.symm
   | false =>
     cases hg : (l.filter fun g => decide (g.i < e.i)).getLast? with
     | none => rw [hg] at h; injection h with h; exact .inl h.symm
     | some f =>
       rw [hg] at h
       dsimp only at h
       rw [if_neg (by simp)] at h
       by_cases h2 : f.i = e.i - 1 /\ f.t <= e.t
       · rw [if_pos h2] at h; injection h with h; exact .inr h.symm
       · rw [if_neg h2] at h; cases h
  exact hin _ h
 rcases key with rfl | rfl
 · simp
 · rw [List.length_append,List.length_singleton]
   have := List.length_filter_le (fun g => decide (g.i < e.i)) l
   omega
theorem qfT {q p : Hd × List Ent} {r : List UInt8} (h : tellOne q r = some p) : p.2.length <= q.2.length + 1 := by
 unfold tellOne at h
 split at h
 · split at h
   · injection h with h; subst h; exact Nat.le_succ _
   · cases h
 · split at h
   · split at h
     · obtain ⟨l,hl,rfl⟩ := Option.map_eq_some_iff.1 h
       exact qic hl
     · cases h
   · cases h
theorem qji (w : World) (Z : Nat -> Prop) (R : Option Addr) (n rc : Nat) (ls : List (List UInt8)) (hr : Recs w Z R n rc ls) (hn : n <= 100000) (hls : fit ls) :
 Calls Tryz.prog 39 #[.slice R n rc] w (qiy w ls) := by
 have hll := hr.1
 have hst := RpAt.start w ls
 go_enter Tryz.func39,Tryz.ntmps39
 go_wp2
 generalize (w.alloc (.cells #[.int .i64 0, .int .i64 0, .slice none 0 0] 101)).alloc (.cells #[.int .i64 0, .int .i64 (-1), .slice none 0 0] 101) = W0 at *
 go_loopg [11] n (fun g i wr => ∃ (k : Nat) (p : Hd × List Ent) (A : Option Addr) (c : Nat),k + g = n /\ i = .int .i64 (k : Int) /\ RpAt w wr ls k p A c)
 case atStart => exact ⟨0,_,_,_,by omega,rfl,hst⟩
 case round =>
  clear hst
  obtain ⟨k,p,A,c,hk,rfl,hP⟩ := hrel
  by_cases hklt : k < n
  · have hlt' : (k : Int) < (n : Int) := by omega
    have hkl : k < ls.length := by omega
    obtain ⟨g,off,E,ec,rfl,hg,_,hcell,hc,hl⟩ := (hr.below hP.below nlq).at_ k hklt
    have h60 := qhk hls k hkl
    obtain ⟨ta,tb⟩ := qib (hd0,[]) ls k hkl p hP.tells
    have hgo : qW p.2 := qb6 (ls.take k) hP.tells trivial
    have hfew := hP.few
    have hTk := qjh wr (w.heap.size + 1) (w.heap.size + 1) p.1 A c p.2 E ec (ls[k]'hkl) hP.tld hgo (by omega) hl (by omega)
    have hpp : (p.1,p.2) = p := rfl
    rw [hpp] at hTk
    have htl := fun p2 (h : tellOne p (ls[k]'hkl) = some p2) => qfT h
    obtain ⟨o,ho⟩ : ∃ o,Hid (tellOne p (ls[k]'hkl) = o) := ⟨_,⟨rfl⟩⟩
    rw [ho.out] at hTk ta tb htl
    have HP := Lib.hid hP
    have HTA := Lib.hid ta
    have HTB := Lib.hid tb
    have HTL := Lib.hid htl
    have HK := Lib.hid hk
    generalize (ls[k]'hkl).length = rl at *
    clear hP ta tb htl hk hgo hpp hl
    go_wp2_with fail
    refine hTk.mono ?_
    rintro e w2 ⟨k2,hp2⟩
    have hP : RpAt w wr ls k p A c := HP
    have hres := (k2.block w.heap.size (hlt hP.res) (by show w.heap.size < w.heap.size + 1; omega)).trans hP.res
    have hbel : Below w.heap.size w w2 := qaf hP.below k2 (fun i hi => by show i < w.heap.size + 1; omega) hP.below.size
    cases o with
    | some p2 =>
      dsimp only at hp2
      obtain ⟨rfl,A2,c2,hT2⟩ := hp2
      have hl2 : p2.2.length <= k + 1 := by
       have h := (show ∀ q,some p2 = some q -> q.2.length <= p.2.length + 1 from HTL) p2 rfl
       omega
      have HN := Lib.hid (show RpAt w w2 ls (k + 1) p2 A2 c2 from ⟨HTA,hl2,hT2,hres,hbel⟩)
      clear hTk k2 hP hres hbel hT2 hl2
      go_wp2
      go_roundg (gk - 1)
      case measure => have e : k + gk = n := HK; omega
      case rel => exact ⟨k + 1,p2,A2,c2,by have e : k + gk = n := HK; omega,by go_num,HN⟩
    | none =>
      dsimp only at hp2
      obtain rfl := hp2
      have HE := Lib.hid (show tells ls = none from HTB)
      have HB := Lib.hid hbel
      have HR := Lib.hid hres
      obtain ⟨⟨a0,a1,a2⟩,⟨f0,f1,f2⟩⟩ := row3 hres
      clear hTk k2 hP hres hbel
      go_wp2
      refine bodyPost_ret (qa (n := w.heap.size) rfl rfl (qL _ _ _ _ _ _ _ _ _ HR.out) Tryz.underlying101 rfl (by kernel_rfl)) rfl ?_
      refine ⟨qai HB.out nlq _ _ _,?_⟩
      rw [HE.out]
      rfl
  · obtain rfl : k = n := by omega
    have he : tells ls = some p := by
     have := hP.tells
     rw [List.take_of_length_le (by omega)] at this
     exact this
    obtain ⟨⟨a0,a1,a2⟩,⟨f0,f1,f2⟩⟩ := row3 hP.res
    obtain ⟨⟨b0,b1,b2⟩,_⟩ := row3 hP.tld.box
    have HE := Lib.hid he
    have HP := Lib.hid hP
    clear hP he hr
    go_wp2
    refine bodyPost_ret (qa (n := w.heap.size) rfl rfl (qL _ _ _ _ _ _ _ _ _ (RpAt.res HP)) Tryz.underlying101 rfl (by kernel_rfl)) rfl ?_
    refine ⟨qai (RpAt.below HP) nlq _ _ _,?_⟩
    rw [HE.out]
    have hP : RpAt w wr ls k p A c := HP
    refine ⟨A,c,rfl,?_,by have := hP.few; omega⟩
    have hrow := hP.tld.row
    obtain ⟨xs,ho,hy,hx,hok⟩ := (hrow.keep (w' := ((wr.setCell ⟨w.heap.size,0,none⟩ (.int .i64 p.1.t)).setCell ⟨w.heap.size,1,none⟩ (.int .i64 p.1.v)).setCell ⟨w.heap.size,2,none⟩ (.slice A p.2.length c)) (by simp) fun k _ hk => qcB _ (by have := hk.1; omega) _ _ _)
    refine ⟨xs,?_,fun g hg => by have := (hy g hg).1; show w.heap.size <= g; omega,hx,fun x hx => (hok x hx).mono fun q hq => ⟨by have := hq.1.1; show w.heap.size <= q; omega,hq.2⟩⟩
    rcases ho.2 with ⟨e,h0⟩ | ⟨g,cap,cur,e,hb,r⟩
    · exact ⟨ho.1, .inl ⟨e,h0⟩⟩
    · exact ⟨ho.1, .inr ⟨g,cap,cur,e,by omega,r⟩⟩
end Go.Proofs.YtmeoooojmhhahaaGreat
namespace Go.Proofs.YtmeoooojmhhahaaGreat
open Go.RowKit
def qfU (w : World) (Y : Nat -> Prop) (s : Ent) (l : List Ent) (e : Ending) (w' : World) : Prop :=
 ∃ A c,e = .returned (.slice A (qs s l).length c) /\ qz w' Y A (qs s l).length c (qs s l) /\ Below w.heap.size w w'
structure BeAt (w wr : World) (s : Ent) (B : Option Addr) (bn bc : Nat) : Prop where
 box : wr.heap[w.heap.size]? = some (.cells #[.int .i64 s.i, .int .i64 s.t, .slice B bn bc] 35)
 below : Below w.heap.size w wr
theorem qfw (w : World) (Y : Nat -> Prop) (s : Ent) (B : Option Addr) (bn bc : Nat) (A : Option Addr) (len cap : Nat) (l : List Ent) (h : qz w Y A len cap l) (hm : len <= 100000) (hg : qW l) (hs : -9223372036854775808 <= s.i /\ s.i <= 1099511627776) :
 Calls Tryz.prog 40 #[entV s.i s.t B bn bc, .slice A len cap] w (qfU w Y s l) := by
 obtain ⟨hl1,hl2,hl3⟩ := h.len
 have hB0 : BeAt w (w.alloc (.cells #[.int .i64 s.i, .int .i64 s.t, .slice B bn bc] 35)) s B bn bc := ⟨heap_alloc_new _ _,blq.alloc nlq _⟩
 have HS := Lib.hid h
 have HLL := Lib.hid hl1
 have hm' : (len : Int) <= 100000 := by omega
 clear hl1
 go_enter Tryz.func40,Tryz.ntmps40
 go_wp2
 go_loopg [9] len (fun g i wr => ∃ k : Nat,k + g = len /\ i = .int .i64 (k : Int) /\ Hid (∀ n (hn : n < l.length),n < k -> ¬ (l[n].i = s.i /\ l[n].t = s.t)) /\ BeAt w wr s B bn bc)
 case atStart => exact ⟨0,by omega,rfl,⟨fun n _ hn => absurd hn (by omega)⟩,hB0⟩
 case round =>
  clear hB0
  obtain ⟨k,hk,rfl,HA,hB⟩ := hrel
  have hE := (h.below hB.below).ents
  obtain ⟨⟨s0,s1,s2⟩,_⟩ := row3 hB.box
  by_cases hklt : k < len
  · have hlt' : (k : Int) < (len : Int) := by omega
    have hkl : k < l.length := by have e : len = l.length := HLL; omega
    obtain ⟨g,off,E,ec,hA,hgl,c0,c1,c2,_⟩ := hE.at_ k hklt
    have hmt := fun (h1 : l[k].i = s.i) (h2 : l[k].t = s.t) => qh7 hg k hkl h1 h2
    have HN := Lib.hid (show ¬ (l[k].i = s.i /\ l[k].t = s.t) -> ∀ n (hn : n < l.length),n < k + 1 -> ¬ (l[n].i = s.i /\ l[n].t = s.t) from fun h0 n hn hnk => by
     rcases Nat.lt_or_ge n k with h1 | h1
     · exact HA.out n hn h1
     · obtain rfl : n = k := by omega
       exact h0)
    generalize l[k] = x at *
    obtain ⟨xi,xt,xd⟩ := x
    dsimp only at *
    have hb1 := hB.below
    have hb2 : Below wr.heap.size wr (wr.alloc (.cells #[.int .i64 xi, .int .i64 xt, .slice E xd.length ec] 69)) := blq.alloc nlq _
    have HB2 := Lib.hid (show BeAt w (wr.alloc (.cells #[.int .i64 xi, .int .i64 xt, .slice E xd.length ec] 69)) s B bn bc from ⟨(hb2.block _ (hlt hB.box)).trans hB.box,hb1.trans (hb2.mono hb1.size)⟩)
    have hbx := hlt hB.box
    have HK := Lib.hid hk
    by_cases hy : xi = s.i /\ xt = s.t
    · obtain ⟨h1,h2⟩ := hy
      have hlf := hmt h1 h2
      have hsl := fun W => qjf (A := A) (n := len) (cap := cap) (k := k + 1) (by omega) (by omega) W
      have hcast : ((k + 1 : Nat) : Int) = (k : Int) + 1 := by omega
      rw [hcast] at hsl
      have hD := (h.below (hb1.trans (hb2.mono hb1.size))).drop (k := k + 1) (by omega)
      have hdl : (qs s l).length = len - (k + 1) := by rw [hlf,List.length_drop]; have e : len = l.length := HLL; omega
      rw [<- hlf] at hD
      have HDL := Lib.hid hdl
      subst hA
      generalize qba (some ⟨g,off,none⟩) cap (k + 1) = A1 at *
      generalize cap - (k + 1) = c1' at *
      generalize len - (k + 1) = n1 at *
      have HD := Lib.hid hD
      have q1 : (xi == s.i) = true := by simp [h1]
      have q2 : (xt == s.t) = true := by simp [h2]
      have q3 : (xi = s.i) = True := eq_true h1
      have q4 : (xt = s.t) = True := eq_true h2
      clear hmt HN hlf hD h1 h2 hb2 hk HA hE hcast hdl
      go_wp2
      go_ret
      have e : (qs s l).length = n1 := HDL
      refine ⟨A1,c1',by rw [e]; rfl,by rw [e]; exact HD.out,HB2.out.below⟩
    · have HNN := Lib.hid (HN.out hy)
      clear HN HA hmt hE hb2 hk hb1
      by_cases h1 : xi = s.i
      · have h2 : ¬ xt = s.t := fun h2 => hy ⟨h1,h2⟩
        have q1 : (xi == s.i) = true := by simp [h1]
        have q2 : (xt == s.t) = false := by simp [h2]
        have q3 : (xi = s.i) = True := eq_true h1
        have q4 : (xt = s.t) = False := eq_false h2
        clear h1 h2 hy
        go_wp2
        go_roundg (gk - 1)
        case measure => have e : k + gk = len := HK; omega
        case rel => exact ⟨k + 1,by have e : k + gk = len := HK; omega,by go_num,⟨HNN.out⟩,HB2.out⟩
      · have q1 : (xi == s.i) = false := by simp [h1]
        have q3 : (xi = s.i) = False := eq_false h1
        clear h1 hy
        go_wp2
        go_roundg (gk - 1)
        case measure => have e : k + gk = len := HK; omega
        case rel => exact ⟨k + 1,by have e : k + gk = len := HK; omega,by go_num,⟨HNN.out⟩,HB2.out⟩
  · obtain rfl : k = len := by omega
    have hlf := qgK hg fun n hn => HA.out n hn (by have e : k = l.length := HLL; omega)
    by_cases h0 : 0 < k
    · obtain ⟨g,off,E,ec,hA,hgl,c0,c1,c2,_⟩ := hE.at_ 0 h0
      have hx : qfu s l = decide ((l[0]'(by have e : k = l.length := HLL; omega)).i = s.i + 1) := by
       have e : k = l.length := HLL
       cases l with
       | nil => simp at e; omega
       | cons f t => rfl
      rw [hx] at hlf
      generalize l[0]'(by have e : k = l.length := HLL; omega) = x at *
      obtain ⟨xi,xt,xd⟩ := x
      dsimp only at *
      have c0' : wr.cell? ⟨g,off,none⟩ = some (.int .i64 xi) := by simpa using c0
      have e1 : IntKind.i64.wrap (s.i + 1) = s.i + 1 := IntWalk.i64_in _ (by omega)
      have e2 : wrap64 (s.i + 1) = s.i + 1 := by have := e1; rw [IntWalk.i64_left] at this; exact this
      obtain ⟨J,hJ⟩ : ∃ J,Hid (s.i + 1 = J) := ⟨_,⟨rfl⟩⟩
      rw [hJ.out] at hlf
      replace e1 := e1.trans hJ.out
      replace e2 := e2.trans hJ.out
      have hd0 : decide (0 < k) = true := decide_eq_true h0
      have hBL := hB.below
      have HHB := Lib.hid hB
      have hE2 := h.below hB.below
      have HE2 := Lib.hid hE2
      subst hA
      clear hE c0 c1 c2 HA hB h hE2 hk hs
      by_cases hy : xi = J
      · rw [decide_eq_true hy,if_pos rfl] at hlf
        have q1 : (xi == J) = true := by simp [hy]
        have q2 : (xi = J) = True := eq_true hy
        have HLF := Lib.hid hlf
        clear hlf hx hy
        go_wp2
        go_quiet (fail)
        go_wp2
        go_ret
        have e : qs s l = l := HLF
        have e2 : k = l.length := HLL
        refine ⟨some ⟨g,off,none⟩,cap,by rw [e,<- e2]; rfl,by rw [e,<- e2]; exact qz.below HE2 (qO blq _),qO hBL _⟩
      · rw [decide_eq_false hy,if_neg (by simp)] at hlf
        have q1 : (xi == J) = false := by simp [hy]
        have q2 : (xi = J) = False := eq_false hy
        have HLF := Lib.hid hlf
        clear hlf hx hy
        go_wp2
        go_quiet (fail)
        go_wp2
        go_ret
        have e : qs s l = [] := HLF
        refine ⟨none,0,by rw [e]; rfl,by rw [e]; exact qz.nil _ _,qO hBL _⟩
    · obtain rfl : k = 0 := by omega
      have hn0 : qs s l = [] := by
       rw [hlf]
       have e : 0 = l.length := HLL
       cases l with
       | nil => rfl
       | cons f t => simp at e
      have HN := Lib.hid hn0
      have hBL := hB.below
      clear hlf hn0 hE HA hB h s0 s1 s2 h0 hk hs
      go_wp2
      go_quiet (fail)
      go_wp2
      go_ret
      have e : qs s l = [] := HN
      refine ⟨none,0,by rw [e]; rfl,by rw [e]; exact qz.nil _ _,qO hBL _⟩
end Go.Proofs.YtmeoooojmhhahaaGreat
namespace Go.Proofs.YtmeoooojmhhahaaGreat
open Go.RowKit
def qiz (w w' : World) (d : Nat) (D : Dsk) (name : ByteArray) (Z : Nat -> Prop) (e : Ending) : Prop :=
 ((D.openW name).2 = 0 /\ qhr w w' d (D.openW name).1 name Z e (D.told name).1) ∨
 ((D.openW name).2 ≠ 0 /\ e = .returned (.tuple #[.pointer none, .slice none 0 0, .int .i64 (((D.openW name).2 : Nat) : Int)]) /\ Did w w' d (D.openW name).1 Z)
theorem qkn (w : World) (d : Nat) (D : Dsk) (Z : Nat -> Prop) (h : Dk w d D Z) (name : ByteArray) (hn : name.size <= 11) :
 Calls Tryz.prog 38 #[dptr d, .string name] w fun e w' => qiz w w' d D name Z e := by
 by_cases hR : (D.read name).2 ≠ 0 /\ (D.read name).2 ≠ 6
 · have hA := qdy w d D Z h name
   have hW : D.openW name = (D,(D.read name).2) := by unfold Dsk.openW; rw [if_pos hR]
   have hn11 : ((11 : Int) < (name.size : Int)) = False := eq_false (by omega)
   have HD := Lib.hid h
   have HW := Lib.hid hW
   have HR := Lib.hid hR
   generalize D.read name = r at *
   obtain ⟨bb,er⟩ := r
   dsimp only at *
   have e0 : ((er : Int) != 0) = true := by simp; omega
   have e0' : ((er : Int) = 0) = False := eq_false (by omega)
   have e6 : ((er : Int) != 6) = true := by simp; omega
   have e6' : ((er : Int) = 6) = False := eq_false (by omega)
   clear hW hR h hn
   go_enter Tryz.func38,Tryz.ntmps38
   go_wp2_with fail
   refine hA.mono ?_
   rintro e w1 ⟨A1,cap1,rfl,hl1,hb1⟩
   have HB := Lib.hid hb1
   clear hA hl1 hb1
   go_wp2
   refine bodyPost_ret (results_tmp3 rfl _ _ _) rfl ?_
   refine .inr ?_
   rw [HW.out]
   exact ⟨(show er ≠ 0 /\ er ≠ 6 from HR).1,rfl,(show Dk w d D Z from HD).below HB.out,qe HB.out nlq⟩
 · have hR' : (D.read name).2 = 0 \/ (D.read name).2 = 6 := by omega
   by_cases hlt : (D.told name).2 < (D.read name).1.size
   · by_cases hC : (D.cut name ((D.told name).2 : Int)).2 = 0
     · have e1 : D.openW name = D.cut name ((D.told name).2 : Int) := by unfold Dsk.openW; rw [if_neg hR,if_pos hlt]
       refine (qhs w d D Z h name hn hR' (fun _ => hC)).mono fun e w' ho => .inl ⟨by rw [e1]; exact hC,?_⟩
       have e2 : D.trim name = (D.openW name).1 := by unfold Dsk.trim; rw [if_pos hlt,e1]
       rw [<- e2]
       exact ho
     · have hA := qdy w d D Z h name
       have hn11 : ((11 : Int) < (name.size : Int)) = False := eq_false (by omega)
       have hsz := qgk h.good name
       have hend := qcG (D.read name).1.data.toList
       have hlen : (D.read name).1.data.toList.length = (D.read name).1.size := qcI _
       have e1 : D.openW name = D.cut name ((D.told name).2 : Int) := by unfold Dsk.openW; rw [if_neg hR,if_pos hlt]
       have HW := Lib.hid e1
       unfold Dsk.told at *
       have hcut := fun w2 (hw : Dk w2 d D (fun k => Z k \/ w.heap.size <= k /\ k < w2.heap.size)) => qiw w2 d D _ hw name ((qv (D.read name).1.data.toList).2 : Int) (by omega)
       generalize D.read name = r at *
       obtain ⟨bb,er⟩ := r
       dsimp only at *
       generalize bb.data.toList = L at *
       have hScan := fun A cap w1 (hl : Lies w1 A bb.size cap L) => qeW A bb.size cap L w1 hl (by omega)
       unfold qdx at hScan
       generalize qv L = sc at *
       obtain ⟨ls,en⟩ := sc
       dsimp only at *
       have HD := Lib.hid h
       have her2 : ((er : Int) != 0 && (er : Int) != 6) = false := by rcases hR' with rfl | rfl <;> rfl
       have HC := Lib.hid hC
       generalize D.cut name (en : Int) = rc at *
       obtain ⟨Dc,ec⟩ := rc
       dsimp only at *
       have hlt' : (en : Int) < (bb.size : Int) := by omega
       have e0 : ((ec : Int) != 0) = true := by simp; omega
       have e0' : ((ec : Int) = 0) = False := eq_false (by omega)
       clear hlen hend hC h hlt hsz hn hR e1
       rcases hR' with rfl | rfl
       all_goals
        go_enter Tryz.func38,Tryz.ntmps38
        go_wp2_with fail
        refine hA.mono ?_
        rintro e w1 ⟨A1,cap1,rfl,hl1,hb1⟩
        have hS := hScan A1 cap1 w1 hl1
        clear hA hl1
        go_wp2_with fail
        refine hS.mono ?_
        rintro e w2 ⟨A2,cap2,rfl,_,hb2⟩
        have hb12 : Below w.heap.size w w2 := hb1.trans (hb2.mono hb1.size)
        have hK := hcut w2 (Dk.wide HD hb12)
        clear hS hcut hScan hb2 hb1
        go_wp2_with fail
        refine hK.mono ?_
        rintro e w3 ⟨rfl,hd3⟩
        have HO := Lib.hid (show Did w w3 d Dc Z from ⟨(Did.mk' hd3).1,(qe hb12 nlq).trans (Did.mk' hd3).2⟩)
        clear hK hd3 hb12
        go_wp2
        refine bodyPost_ret (results_tmp3 rfl _ _ _) rfl ?_
        refine .inr ?_
        rw [HW.out]
        exact ⟨HC,rfl,HO⟩
   · refine (qhs w d D Z h name hn hR' (fun h => absurd h hlt)).mono fun e w' ho => .inl ?_
     have e1 : D.openW name = (D,0) := by unfold Dsk.openW; rw [if_neg hR,if_neg hlt]
     have e2 : D.trim name = (D.openW name).1 := by unfold Dsk.trim; rw [if_neg hlt,e1]
     refine ⟨by rw [e1],?_⟩
     rw [<- e2]
     exact ho
end Go.Proofs.YtmeoooojmhhahaaGreat
