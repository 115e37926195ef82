/- The program's take and replay, each by its contract. -/
import Derived.Test.YtogbhedbgcmckaaGreatNNM17
import Derived.Test.YtogbhedbgcmckaaGreatNNM14
import Derived.Test.YtogbhedbgcmckaaGreatNNM15
import Derived.ArgAppend
set_option linter.unusedVariables false
set_option linter.unusedSimpArgs false
set_option maxRecDepth 100000
set_option maxHeartbeats 3200000
namespace Go.Proofs.YtogbhedbgcmckaaGreat
open Go.RowKit
def qlj (w : World) (b B : Nat) (p : Option (Hd × List Ent)) (e : Ending) (w' : World) : Prop :=
 qa (· < B) w w' /\ match p with
  | some p => e = .returned (.bool true) /\ ∃ A' c',Tld w' b B p.1 A' c' p.2
  | none => e = .returned (.bool false)
theorem Tld.keeps {w w' : World} {Z : Nat -> Prop} {b B : Nat} {h : Hd} {A : Option Addr} {c : Nat} {l : List Ent} (hT : Tld w b B h A c l) (hk : qa Z w w') (hz : ∀ k,k < w.heap.size -> Z k) : Tld w' b B h A c l :=
 ⟨(hk.block _ (hlt hT.box) (hz _ (hlt hT.box))).trans hT.box,hT.row.keep hk.size fun k h1 _ => hk.block k h1 (hz k h1),hT.lo⟩
theorem Tld.hard {w : World} {b B : Nat} {h : Hd} {A : Option Addr} {c : Nat} {l : List Ent} (hT : Tld w b B h A c l) (t v : Int) : Tld ((w.setCell ⟨b,0,none⟩ (.int .i64 t)).setCell ⟨b,1,none⟩ (.int .i64 v)) b B ⟨t,v⟩ A c l := by
 refine ⟨?_,hT.row.keep (by simp) fun k _ hy => (Below.heap_setCell _ _ _ _ (by exact hy.2)).trans (Below.heap_setCell _ _ _ _ (by exact hy.2)),hT.lo⟩;have h1 := setCell_at w ⟨b,0,none⟩ (.int .i64 t) _ _ _ rfl hT.box;exact setCell_at _ ⟨b,1,none⟩ (.int .i64 v) _ _ _ rfl h1
theorem qeO (q : Hd × List Ent) (r : List UInt8) (k : Nat) (s : St) (hk : numberN (some r) 1 = (k,s)) (h1 : k = 1) : tellOne q r = if (hardFromN s).s = some [] then some (⟨(hardFromN s).t,(hardFromN s).v⟩,q.2) else none := by
 unfold tellOne;rw [hk,if_pos h1]
theorem qfD (q : Hd × List Ent) (r : List UInt8) (k : Nat) (s : St) (hk : numberN (some r) 1 = (k,s)) (h2 : k = 2) : tellOne q r = if (fromN rightB s 12000).s = some [] then (putE q.2 ⟨(fromN rightB s 12000).i,(fromN rightB s 12000).t,(fromN rightB s 12000).d⟩).map fun l => (q.1,l) else none := by
 unfold tellOne;rw [hk,if_neg (by simp; omega),if_pos h2]
theorem qgq (q : Hd × List Ent) (r : List UInt8) (k : Nat) (s : St) (hk : numberN (some r) 1 = (k,s)) (h1 : k ≠ 1) (h2 : k ≠ 2) : tellOne q r = none := by
 unfold tellOne;rw [hk,if_neg h1,if_neg h2]
theorem qhB (w : World) (b B : Nat) (h : Hd) (A : Option Addr) (c : Nat) (l : List Ent) (R : Option Addr) (rc : Nat) (r : List UInt8) (hT : Tld w b B h A c l) (hg : qM l) (hlen : l.length <= 100000) (hr : Lies w R r.length rc r) (hr6 : r.length <= 1000000) :
 Calls Tryz.prog 110 #[.pointer (some ⟨b,0,none⟩), .slice R r.length rc] w (qlj w b B (tellOne (h,l) r)) := by
 have hN := qeb R r.length rc r w (· < w.heap.size) (fun k hk => hk) hr (by omega)
 have hB := fun W i Z hW => qgW W i (some r) Z hW
 have hL1 := qaJ (some r) 1 (show left (some r) <= 140737488355328 by show r.length <= _; omega);have hbw := hlt hT.box;have hlo := hT.lo;obtain ⟨p,hp⟩ : ∃ p,Hid (tellOne (h,l) r = p) := ⟨_,⟨rfl⟩⟩;rw [hp.out];have hlt1 := qbn (some r) 1;obtain ⟨kd,s,hks⟩ : ∃ kd s,numberN (some r) 1 = (kd,s) := ⟨_,_,rfl⟩;rw [hks] at hB hL1 hlt1;dsimp only at hB hL1 hlt1;have hkd : kd < 256 := hlt1;have t1 := qeO (h,l) r kd s hks;have t2 := qfD (h,l) r kd s hks;have t3 := qgq (h,l) r kd s hks;rw [hp.out] at t1 t2 t3;have HT := Lib.hid hT;clear hT hr hlt1 hks
 by_cases h1 : kd = 1
 · have HPT := Lib.hid (t1 h1);subst h1
   have hGH := fun W i Z hW hZ => qjB W i s Z hW hZ
   obtain ⟨⟨ft,fv,fs⟩,hF⟩ : ∃ F,hardFromN s = F := ⟨_,rfl⟩;rw [hF] at hGH;have HF := Lib.hid hF;dsimp only at hGH;clear t1 t2 t3 hF
   go_enter Tryz.func110,Tryz.ntmps110
   go_wp2_with fail
   refine hN.mono ?_;rintro e w1 ⟨i,rfl,hin1,hb1⟩;have hB1 := hB w1 i _ hin1;clear hN hB hin1
   go_wp2_with fail
   refine hB1.mono ?_;rintro e w2 ⟨rfl,hin2,k2⟩;have hs12 := Nat.le_trans hb1.size k2.size;have hin2' := hin2.out (Z' := fun k => k < w.heap.size \/ w2.heap.size <= k) (fun k hk => hk);have hk2 : qa (· < w.heap.size) w w2 := (qb hb1 (Nat.le_refl _)).trans k2;have hG2 := hGH w2 i _ hin2' (fun k hk => .inr hk);clear hB1 hin2 hin2' hGH k2 hb1
   go_wp2_with fail
   refine hG2.mono ?_;rintro e w3 ⟨rfl,hin3,k3⟩;have hk3 : qa (· < w.heap.size) w w3 := hk2.trans (k3.mono fun k hk => .inl hk)
   have hT3 := (show Tld w b B h A c l from HT).keeps hk3 fun k hk => hk
   have hT4 := hT3.hard ft fv;have hk4 : qa (· < B) w ((w3.setCell ⟨b,0,none⟩ (.int .i64 ft)).setCell ⟨b,1,none⟩ (.int .i64 fv)) := ((hk3.mono fun k hk => Nat.lt_of_lt_of_le hk (Nat.le_trans hlo (Nat.le_of_lt hbw))).trans (qg _ _ _ (by show ¬ b < B; omega))).trans (qg _ _ _ (by show ¬ b < B; omega));have hin4 : In ((w3.setCell ⟨b,0,none⟩ (.int .i64 ft)).setCell ⟨b,1,none⟩ (.int .i64 fv)) i fs (fun k => k < w.heap.size \/ w2.heap.size <= k) := hin3.keep (by simp) fun k _ hz => (Below.heap_setCell _ _ _ _ (by show k ≠ b; intro e; exact hz (.inl (by omega)))).trans (Below.heap_setCell _ _ _ _ (by show k ≠ b; intro e; exact hz (.inl (by omega))));have hD4 := qdo _ i fs _ hin4;obtain ⟨⟨b0,b1,b2⟩,⟨f0,f1,f2⟩⟩ := row3 hT3.box;have HT4 := Lib.hid hT4;have HK4 := Lib.hid hk4;clear hG2 hin3 k3 hk3 hT3 hT4 hk4 hin4 hk2;obtain ⟨q,hq⟩ : ∃ q,Hid (decide (fs = some []) = q) := ⟨_,⟨rfl⟩⟩;rw [hq.out] at hD4
   go_wp2_with (first
    | (go_at_call 145
       refine hD4.mono ?_
       rintro e w5 ⟨rfl,rfl⟩)
    | fail)
   go_ret;have e1 : hardFromN s = _ := HF;have e2 : p = _ := HPT;rw [e1] at e2;dsimp only at e2
   cases q with
   | true =>
     rw [if_pos (of_decide_eq_true hq.out)] at e2;rw [e2];exact ⟨HK4,rfl,A,c,HT4⟩
   | false =>
     rw [if_neg (of_decide_eq_false hq.out)] at e2;rw [e2];exact ⟨HK4,rfl⟩
 · have h1' : ((kd : Int) == 1) = false := by simp; omega
   have h1'' : ((kd : Int) = 1) = False := eq_false (by omega)
   by_cases h2 : kd = 2
   · have HPT := Lib.hid (t2 h2);subst h2
     have hGE := fun W i Z hW hZ => qiD W i s Z hW hZ hL1
     have hright := fun (hs : (fromN rightB s 12000).s ≠ none) => qb6 hs
     obtain ⟨⟨fi,ft,fd,fs⟩,hF⟩ : ∃ F,fromN rightB s 12000 = F := ⟨_,rfl⟩;rw [hF] at hGE hright;have HF := Lib.hid hF;have HRI := Lib.hid hright;dsimp only at hGE;clear t1 t2 t3 hF h1 h1' h1'' hright hL1
     go_enter Tryz.func110,Tryz.ntmps110
     go_wp2_with fail
     refine hN.mono ?_;rintro e w1 ⟨i,rfl,hin1,hb1⟩;have hB1 := hB w1 i _ hin1;clear hN hB hin1
     go_wp2_with fail
     refine hB1.mono ?_;rintro e w2 ⟨rfl,hin2,k2⟩;have hs12 := Nat.le_trans hb1.size k2.size;have hin2' := hin2.out (Z' := fun k => k < w.heap.size \/ w2.heap.size <= k) (fun k hk => hk);have hk2 : qa (· < w.heap.size) w w2 := (qb hb1 (Nat.le_refl _)).trans k2;have hG2 := hGE w2 i _ hin2' (fun k hk => .inr hk);clear hB1 hin2 hin2' hGE k2 hb1
     go_wp2_with fail
     refine hG2.mono ?_;rintro e w3 ⟨D,n,dc,rfl,hlD,hDn,hin3,k3,hdc⟩;have hn := hlD.1;subst hn;have hk3 : qa (· < w.heap.size) w w3 := hk2.trans (k3.mono fun k hk => .inl hk);have hA4 : Below w3.heap.size w3 (w3.alloc (.cells #[.int .i64 fi, .int .i64 ft, .slice D fd.length dc] 117)) := (Below.refl _ _).alloc (Nat.le_refl _) _;have hk4 : qa (· < w.heap.size) w (w3.alloc (.cells #[.int .i64 fi, .int .i64 ft, .slice D fd.length dc] 117)) := hk3.trans (qb hA4 (Nat.le_refl _));have hin4 := hin3.below hA4 (Nat.le_refl _)
     have hT4 := (show Tld w b B h A c l from HT).keeps hk4 fun k hk => hk
     have hl4 := hlD.below hA4 (Nat.le_refl _);have hr4 := heap_alloc_new w3 (.cells #[.int .i64 fi, .int .i64 ft, .slice D fd.length dc] 117);have hD4 := qdo _ i fs _ hin4;have hrow := (show Tld w b B h A c l from HT).row;have hkB : qa (· < B) w (w3.alloc (.cells #[.int .i64 fi, .int .i64 ft, .slice D fd.length dc] 117)) := hk4.mono fun k hk => Nat.lt_of_lt_of_le hk (Nat.le_trans hlo (Nat.le_of_lt hbw));have HKB := Lib.hid hkB
     have hrlt : ∀ g,(Value.slice A l.length c).ownBlock = some g -> g < w.heap.size := fun g hg => by
      obtain ⟨xs,ho,_⟩ := hrow;exact (ho.lt g hg).2
     have hdz : 0 < fd.length -> ∀ q o,D = some ⟨q,o,none⟩ -> B <= q /\ (Value.slice A l.length c).ownBlock ≠ some q /\ q ≠ b := fun h0 q o e => by
      have := hDn h0 q o e;exact ⟨by omega,fun er => by have := hrlt q er; omega,by omega⟩
     have hP := fun hx => qiC _ b B h A c l ⟨fi,ft,fd⟩ D dc hT4 hx hg hlen hl4 hdc hdz
     clear hG2 hin3 k3 hk3 hk4 hin4 hk2 hA4 hlD hDn hT4 hl4 hrow hrlt hkB hdz
     by_cases hd : fs = some []
     · rw [decide_eq_true hd] at hD4;have hx : rightE ⟨fi,ft,fd⟩ = true := HRI (by rw [hd]; simp);have hP4 := hP hx;have HD := Lib.hid hd;obtain ⟨⟨a0,a1,a2⟩,_⟩ := row3 hr4;clear hP hd hr4
       go_wp2_with fail
       refine hD4.mono ?_;rintro e w5 ⟨rfl,rfl⟩
       go_wp2_with fail
       refine hP4.mono ?_;rintro e w6 hp6;have e1 : fromN rightB s 12000 = _ := HF;have e2 : p = _ := HPT;have e3 : fs = some [] := HD;rw [e1] at e2;dsimp only at e2;rw [if_pos e3] at e2;obtain ⟨k6,hp6⟩ := hp6
       cases hpe : putE l ⟨fi,ft,fd⟩ with
       | some m =>
         rw [hpe] at hp6 e2;obtain ⟨rfl,A6,c6,hT6⟩ := hp6;have HE := Lib.hid e2;have HT6 := Lib.hid hT6;have HK6 := Lib.hid k6;clear hD4 hP4 hT6 k6 e2 e1 e3 hpe a0 a1 a2;go_wp2;go_ret;have e2 : p = _ := HE;rw [e2];exact ⟨qa.trans HKB HK6,rfl,A6,c6,HT6⟩
       | none =>
         rw [hpe] at hp6 e2;obtain rfl := hp6;have HE := Lib.hid e2;have HK6 := Lib.hid k6;clear hD4 hP4 k6 e2 e1 e3 hpe a0 a1 a2;go_wp2;go_ret;have e2 : p = _ := HE;rw [e2];exact ⟨qa.trans HKB HK6,rfl⟩
     · rw [decide_eq_false hd] at hD4;have HD := Lib.hid hd;clear hP hd hr4
       go_wp2_with fail
       refine hD4.mono ?_;rintro e w5 ⟨rfl,rfl⟩;go_wp2;go_ret;have e1 : fromN rightB s 12000 = _ := HF;have e2 : p = _ := HPT;have e3 : ¬ fs = some [] := HD;rw [e1] at e2;dsimp only at e2;rw [if_neg e3] at e2;rw [e2];exact ⟨HKB,rfl⟩
   · have h2' : ((kd : Int) == 2) = false := by simp; omega
     have h2'' : ((kd : Int) = 2) = False := eq_false (by omega);have HPT := Lib.hid (t3 h1 h2);clear t1 t2 t3 h1 h2
     go_enter Tryz.func110,Tryz.ntmps110
     go_wp2_with fail
     refine hN.mono ?_;rintro e w1 ⟨i,rfl,hin1,hb1⟩;have hB1 := hB w1 i _ hin1;clear hN hB hin1
     go_wp2_with fail
     refine hB1.mono ?_;rintro e w2 ⟨rfl,hin2,k2⟩;have hk2 : qa (· < w.heap.size) w w2 := (qb hb1 (Nat.le_refl _)).trans k2;have HKB := Lib.hid (hk2.mono (Z' := (· < B)) fun k hk => Nat.lt_of_lt_of_le hk (Nat.le_trans hlo (Nat.le_of_lt hbw)));clear hB1 hin2 k2 hb1 hk2;go_wp2;go_ret;have e2 : p = none := HPT;rw [e2];exact ⟨HKB,rfl⟩
def qgP (w : World) (ls : List (List UInt8)) (e : Ending) (w' : World) : Prop :=
 Below w.heap.size w w' /\ match tells ls with
  | some p => ∃ A c,e = .returned (.tuple #[.agg #[.int .i64 p.1.t, .int .i64 p.1.v, .slice A p.2.length c], .bool true]) /\ qz w' w.heap.size (w.heap.size <= ·) (.slice A p.2.length c) p.2 /\ p.2.length <= ls.length
  | none => e = .returned (.tuple #[.agg #[.int .i64 0, .int .i64 0, .slice none 0 0], .bool false])
structure RpAt (w wr : World) (ls : List (List UInt8)) (k : Nat) (p : Hd × List Ent) (A : Option Addr) (c : Nat) : Prop where
 tells : qD (hd0,[]) (ls.take k) = some p
 few : p.2.length <= k
 tld : Tld wr (w.heap.size + 1) (w.heap.size + 1) p.1 A c p.2
 res : wr.heap[w.heap.size]? = some (.cells #[.int .i64 0, .int .i64 0, .slice none 0 0] 131)
 below : Below w.heap.size w wr
theorem RpAt.start (w : World) (ls : List (List UInt8)) : RpAt w ((w.alloc (.cells #[.int .i64 0, .int .i64 0, .slice none 0 0] 131)).alloc (.cells #[.int .i64 0, .int .i64 (-1), .slice none 0 0] 131)) ls 0 (hd0,[]) none 0 := by
 refine ⟨rfl,Nat.le_refl _,⟨heap_alloc2_new _ _ _,qz.nil _ _ _,Nat.le_refl _⟩,(Below.heap_alloc _ _ _ (by simp)).trans (heap_alloc_new _ _),((Below.refl _ _).alloc (Nat.le_refl _) _).alloc (by simp) _⟩
theorem qgr (q : Hd × List Ent) (ls : List (List UInt8)) (k : Nat) (hk : k < ls.length) (p : Hd × List Ent) (h : qD q (ls.take k) = some p) :
 qD q (ls.take (k + 1)) = tellOne p ls[k] /\ qD q ls = (tellOne p ls[k]).bind fun p => qD p (ls.drop (k + 1)) := by
 have e1 : ls.take (k + 1) = ls.take k ++ [ls[k]] := List.take_succ_eq_append_getElem hk
 have e2 : ls = ls.take k ++ ls[k] :: ls.drop (k + 1) := by rw [List.getElem_cons_drop,List.take_append_drop]
 constructor
 · rw [e1,qcI,h];show qD p [ls[k]] = _;rw [qaO]
   cases tellOne p ls[k] <;> rfl
 · have e3 : qD q ls = qD q (ls.take k ++ ls[k] :: ls.drop (k + 1)) := by rw [<- e2]
   rw [e3,qcI,h];show qD p (ls[k] :: ls.drop (k + 1)) = _;rw [qaO]
theorem qgs {l m : List Ent} {e : Ent} (h : putE l e = some m) : m.length <= l.length + 1 := by
 have key : m = [e] \/ m = l.filter (fun g => decide (g.i < e.i)) ++ [e] := by
  have hin : ∀ b : Bool,(if b = true then some [e] else (match (l.filter fun g => decide (g.i < e.i)).getLast? with | none => some [e] | some f => if f.i = e.i - 1 /\ f.t <= e.t then some (l.filter (fun g => decide (g.i < e.i)) ++ [e]) else none)) = some m -> m = [e] \/ m = l.filter (fun g => decide (g.i < e.i)) ++ [e] := by
   intro b h
   cases b with
   | true => injection h with h; exact .inl h.symm
   | false =>
     cases hg : (l.filter fun g => decide (g.i < e.i)).getLast? with
     | none => rw [hg] at h; injection h with h; exact .inl h.symm
     | some f =>
       rw [hg] at h;dsimp only at h;rw [if_neg (by simp)] at h
       by_cases h2 : f.i = e.i - 1 /\ f.t <= e.t
       · rw [if_pos h2] at h; injection h with h; exact .inr h.symm
       · rw [if_neg h2] at h; cases h
  exact hin _ h
 rcases key with rfl | rfl
 · simp
 · rw [List.length_append,List.length_singleton];have := List.length_filter_le (fun g => decide (g.i < e.i)) l;omega
theorem qd2 {q p : Hd × List Ent} {r : List UInt8} (h : tellOne q r = some p) : p.2.length <= q.2.length + 1 := by
 unfold tellOne at h
 split at h
 · split at h
   · injection h with h; subst h; exact Nat.le_succ _
   · cases h
 · split at h
   · split at h
     · obtain ⟨l,hl,rfl⟩ := Option.map_eq_some_iff.1 h;exact qgs hl
     · cases h
   · cases h
theorem qhC (w : World) (Z : Nat -> Prop) (R : Option Addr) (n rc : Nat) (ls : List (List UInt8)) (hr : Recs w Z R n rc ls) (hn : n <= 100000) (hls : fit ls) :
 Calls Tryz.prog 58 #[.slice R n rc] w (qgP w ls) := by
 have hll := hr.1;have hst := RpAt.start w ls
 go_enter Tryz.func58,Tryz.ntmps58
 go_wp2;generalize (w.alloc (.cells #[.int .i64 0, .int .i64 0, .slice none 0 0] 131)).alloc (.cells #[.int .i64 0, .int .i64 (-1), .slice none 0 0] 131) = W0 at *
 go_loopg [11] n (fun g i wr => ∃ (k : Nat) (p : Hd × List Ent) (A : Option Addr) (c : Nat),k + g = n /\ i = .int .i64 (k : Int) /\ RpAt w wr ls k p A c)
 case atStart => exact ⟨0,_,_,_,by omega,rfl,hst⟩
 case round =>
  clear hst;obtain ⟨k,p,A,c,hk,rfl,hP⟩ := hrel
  by_cases hklt : k < n
  · have hlt' : (k : Int) < (n : Int) := by omega
    have hkl : k < ls.length := by omega
    obtain ⟨g,off,E,ec,rfl,hg,_,hcell,hc,hl⟩ := (hr.below hP.below (Nat.le_refl _)).at_ k hklt;have h60 := qfn hls k hkl;obtain ⟨ta,tb⟩ := qgr (hd0,[]) ls k hkl p hP.tells;have hgo : qM p.2 := qbk (ls.take k) hP.tells trivial;have hfew := hP.few;have hTk := qhB wr (w.heap.size + 1) (w.heap.size + 1) p.1 A c p.2 E ec (ls[k]'hkl) hP.tld hgo (by omega) hl (by omega);have hpp : (p.1,p.2) = p := rfl;rw [hpp] at hTk
    have htl := fun p2 (h : tellOne p (ls[k]'hkl) = some p2) => qd2 h
    obtain ⟨o,ho⟩ : ∃ o,Hid (tellOne p (ls[k]'hkl) = o) := ⟨_,⟨rfl⟩⟩;rw [ho.out] at hTk ta tb htl;have HP := Lib.hid hP;have HTA := Lib.hid ta;have HTB := Lib.hid tb;have HTL := Lib.hid htl;have HK := Lib.hid hk;generalize (ls[k]'hkl).length = rl at *;clear hP ta tb htl hk hgo hpp hl
    go_wp2_with fail
    refine hTk.mono ?_;rintro e w2 ⟨k2,hp2⟩;have hP : RpAt w wr ls k p A c := HP;have hres := (k2.block w.heap.size (hlt hP.res) (by show w.heap.size < w.heap.size + 1; omega)).trans hP.res;have hbel : Below w.heap.size w w2 := qab hP.below k2 (fun i hi => by show i < w.heap.size + 1; omega) hP.below.size
    cases o with
    | some p2 =>
      dsimp only at hp2;obtain ⟨rfl,A2,c2,hT2⟩ := hp2
      have hl2 : p2.2.length <= k + 1 := by
       have h := (show ∀ q,some p2 = some q -> q.2.length <= p.2.length + 1 from HTL) p2 rfl;omega
      have HN := Lib.hid (show RpAt w w2 ls (k + 1) p2 A2 c2 from ⟨HTA,hl2,hT2,hres,hbel⟩);clear hTk k2 hP hres hbel hT2 hl2;go_wp2
      go_roundg (gk - 1)
      case measure => have e : k + gk = n := HK; omega
      case rel => exact ⟨k + 1,p2,A2,c2,by have e : k + gk = n := HK; omega,by go_num,HN⟩
    | none =>
      dsimp only at hp2;obtain rfl := hp2;have HE := Lib.hid (show tells ls = none from HTB);have HB := Lib.hid hbel;have HR := Lib.hid hres;obtain ⟨⟨a0,a1,a2⟩,⟨f0,f1,f2⟩⟩ := row3 hres;clear hTk k2 hP hres hbel;go_wp2;refine bodyPost_ret (qm (n := w.heap.size) rfl rfl (qN _ _ _ _ _ _ _ _ _ HR.out) Tryz.underlying131 rfl (by kernel_rfl)) rfl ?_;refine ⟨qP HB.out (Nat.le_refl _) _ _ _,?_⟩;rw [HE.out]
      rfl
  · obtain rfl : k = n := by omega
    have he : tells ls = some p := by
     have := hP.tells;rw [List.take_of_length_le (by omega)] at this;exact this
    obtain ⟨⟨a0,a1,a2⟩,⟨f0,f1,f2⟩⟩ := row3 hP.res;obtain ⟨⟨b0,b1,b2⟩,_⟩ := row3 hP.tld.box;have HE := Lib.hid he;have HP := Lib.hid hP;clear hP he hr;go_wp2;refine bodyPost_ret (qm (n := w.heap.size) rfl rfl (qN _ _ _ _ _ _ _ _ _ (RpAt.res HP)) Tryz.underlying131 rfl (by kernel_rfl)) rfl ?_;refine ⟨qP (RpAt.below HP) (Nat.le_refl _) _ _ _,?_⟩;rw [HE.out];have hP : RpAt w wr ls k p A c := HP;refine ⟨A,c,rfl,?_,by have := hP.few; omega⟩;have hrow := hP.tld.row;obtain ⟨xs,ho,hy,hx,hok⟩ := (hrow.keep (w' := ((wr.setCell ⟨w.heap.size,0,none⟩ (.int .i64 p.1.t)).setCell ⟨w.heap.size,1,none⟩ (.int .i64 p.1.v)).setCell ⟨w.heap.size,2,none⟩ (.slice A p.2.length c)) (by simp) fun k _ hk => qbI _ (by have := hk.1; omega) _ _ _);refine ⟨xs,?_,fun g hg => by have := (hy g hg).1; show w.heap.size <= g; omega,hx,fun x hx => (hok x hx).mono fun q hq => ⟨by have := hq.1.1; show w.heap.size <= q; omega,hq.2⟩⟩;rcases ho.2 with ⟨e,h0⟩ | ⟨g,cap,cur,e,hb,r⟩
    · exact ⟨ho.1, .inl ⟨e,h0⟩⟩
    · exact ⟨ho.1, .inr ⟨g,cap,cur,e,by omega,r⟩⟩
end Go.Proofs.YtogbhedbgcmckaaGreat
set_option linter.unusedVariables false
set_option linter.unusedSimpArgs false
set_option maxRecDepth 100000
set_option maxHeartbeats 200000
namespace Go.Proofs.YtogbhedbgcmckaaGreat
open Go.RowKit
theorem qcQ (xs ys : List Lay) : rowOf (xs ++ ys) = rowOf xs ++ rowOf ys := by simp [rowOf]
theorem qk6 {w : World} {g off : Nat} {xs : List Lay} (hc : ∀ j u,(rowOf xs)[j]? = some u -> w.cell? ((⟨g,off,none⟩ : Addr).add j) = some u) (k : Nat) (hk : k < xs.length) :
 w.cell? ⟨g,off + k * 3,none⟩ = some (.int .i64 xs[k].e.i) /\ w.cell? ⟨g,off + k * 3 + 1,none⟩ = some (.int .i64 xs[k].e.t) /\ w.cell? ⟨g,off + k * 3 + 2,none⟩ = some (.slice xs[k].A xs[k].e.d.length xs[k].c) := by
 have h : ∀ r (hr : r < 3),w.cell? ⟨g,off + (k * 3 + r),none⟩ = (cells3 xs[k])[r]? := fun r hr => by
  have e := qco xs k r hk hr
  have hl : r < (cells3 xs[k]).length := by simp [cells3]; omega
  rw [List.getElem?_eq_getElem hl] at e ⊢;have := hc _ _ e
  rwa [Addr.add_lit] at this
 exact ⟨h 0 (by omega),h 1 (by omega),h 2 (by omega)⟩
def blkS (A : Option Addr) (q : Nat) : Prop := ∃ o,A = some ⟨q,o,none⟩
theorem qeu (g o q : Nat) : blkS (some ⟨g,o,none⟩) q ↔ q = g := by
 constructor
 · rintro ⟨o',e⟩;injection e with e;injection e with e1;exact e1.symm
 · rintro rfl;exact ⟨o,rfl⟩
theorem qiE (q : Nat) : ¬ blkS none q := fun ⟨o,e⟩ => by cases e
def Spot (w : World) (A : Option Addr) (n cap : Nat) (xs : List Lay) : Prop :=
 xs.length = n /\ n <= cap /\ cap <= maxLen /\ (A = none -> cap = 0) /\ ∀ a,A = some a -> ∃ g off cur,a = ⟨g,off,none⟩ /\ w.heap[g]? = some (.cells cur 117 (0,0)) /\ off + cap * 3 <= cur.size /\ ∀ j u,(rowOf xs)[j]? = some u -> cur[off + j]? = some u
section
variable {w w' : World} {A : Option Addr} {n cap : Nat} {xs ys : List Lay}
theorem Spot.keep (h : Spot w A n cap xs) (hk : ∀ q,blkS A q -> w'.heap[q]? = w.heap[q]?) : Spot w' A n cap xs := by
 refine ⟨h.1,h.2.1,h.2.2.1,h.2.2.2.1,fun a e => ?_⟩;obtain ⟨g,off,cur,rfl,hg,r⟩ := h.2.2.2.2 a e;exact ⟨g,off,cur,rfl,(hk g ⟨off,e⟩).trans hg,r⟩
theorem Spot.lt (h : Spot w A n cap xs) {q : Nat} (hq : blkS A q) : q < w.heap.size := by
 obtain ⟨o,e⟩ := hq;obtain ⟨g,off,cur,e2,hg,_⟩ := h.2.2.2.2 _ e;injection e2 with e2;subst e2;exact hlt hg
theorem Spot.cells (h : Spot w A n cap xs) {a : Addr} (e : A = some a) : ∀ j u,(rowOf xs)[j]? = some u -> w.cell? (a.add j) = some u := fun j u hu => by
 obtain ⟨g,off,cur,rfl,hg,_,hc⟩ := h.2.2.2.2 a e;rw [Addr.add_lit,cell_of_row w g _ cur _ _ hg];exact hc j u hu
theorem Spot.ents {Z : Nat -> Prop} (h : Spot w A n cap xs) (hz : ∀ q,blkS A q -> Z q) (hok : ∀ x ∈ xs,qs w Z x) : Ents w Z A n cap (xs.map (·.e)) := by
 refine ⟨by rw [List.length_map]; exact h.1,h.2.1,h.2.2.2.1,fun h0 => ?_⟩
 cases A with
 | none => have := h.2.2.2.1 rfl; have := h.2.1; omega
 | some a =>
   obtain ⟨g,off,cur,rfl,hg,hs,hc⟩ := h.2.2.2.2 a rfl;refine ⟨g,off,rfl,hlt hg,hz g ⟨off,rfl⟩,fun j hj => ?_⟩
   have hj' : j < xs.length := by simpa using hj
   obtain ⟨c0,c1,c2⟩ := qk6 (w := w) (g := g) (off := off) (xs := xs) (h.cells rfl) j hj';obtain ⟨hm,hl,hzE⟩ := hok _ (List.getElem_mem hj');simp only [List.getElem_map];exact ⟨_,_,c0,c1,c2,hm,hl,hzE⟩
theorem qgt (xs : List Lay) (k : Nat) : rowOf (xs.take k) = (rowOf xs).take (k * 3) := by
 have h : rowOf xs = rowOf (xs.take k) ++ rowOf (xs.drop k) := by rw [<- qcQ,List.take_append_drop]
 rcases Nat.lt_or_ge k xs.length with hk | hk
 · have hl : (rowOf (xs.take k)).length = k * 3 := by rw [qu,List.length_take]; omega
   have e := List.take_left' (l₂ := rowOf (xs.drop k)) hl;rw [<- h] at e;exact e.symm
 · rw [List.take_of_length_le hk,List.take_of_length_le (by rw [qu]; omega)]
theorem qhD (xs : List Lay) (k : Nat) : rowOf (xs.drop k) = (rowOf xs).drop (k * 3) := by
 have h : rowOf xs = rowOf (xs.take k) ++ rowOf (xs.drop k) := by rw [<- qcQ,List.take_append_drop]
 rcases Nat.lt_or_ge k xs.length with hk | hk
 · have hl : (rowOf (xs.take k)).length = k * 3 := by rw [qu,List.length_take]; omega
   have e := List.drop_left' (l₂ := rowOf (xs.drop k)) hl;rw [<- h] at e;exact e.symm
 · rw [List.drop_of_length_le hk,List.drop_of_length_le (by rw [qu]; omega)]
   rfl
theorem Spot.take (h : Spot w A n cap xs) {k : Nat} (hk : k <= n) : Spot w A k cap (xs.take k) := by
 have h1 := h.1;have h2 := h.2.1;refine ⟨by rw [List.length_take]; omega,by omega,h.2.2.1,h.2.2.2.1,fun a e => ?_⟩;obtain ⟨g,off,cur,rfl,hg,hs,hc⟩ := h.2.2.2.2 a e;refine ⟨g,off,cur,rfl,hg,hs,fun j u hu => hc j u ?_⟩;rw [qgt] at hu;rw [List.getElem?_take] at hu
 split at hu
 · exact hu
 · cases hu
def qaD (A : Option Addr) (cap k : Nat) : Option Addr := if cap = k then A else A.map (·.add (k * 3))
theorem qgu {k : Nat} (q : Nat) (hA : ∀ a,A = some a -> a.spot = none) : blkS (qaD A cap k) q ↔ blkS A q := by
 unfold qaD
 split
 · exact Iff.rfl
 · cases A with
   | none => exact Iff.rfl
   | some a =>
     obtain ⟨g,o,sp⟩ := a;obtain rfl : sp = none := hA _ rfl;rw [Option.map_some,Addr.add_lit,qeu,qeu]
theorem Spot.spotless (h : Spot w A n cap xs) : ∀ a,A = some a -> a.spot = none := fun a e => by
 obtain ⟨g,off,cur,rfl,_⟩ := h.2.2.2.2 a e
 rfl
theorem Spot.drop (h : Spot w A n cap xs) {k : Nat} (hk : k <= n) : Spot w (qaD A cap k) (n - k) (cap - k) (xs.drop k) := by
 have h1 := h.1;have h2 := h.2.1;refine ⟨by rw [List.length_drop]; omega,by omega,Nat.le_trans (Nat.sub_le _ _) h.2.2.1,fun e => ?_,fun a e => ?_⟩
 · unfold qaD at e
   split at e
   · omega
   · cases A with
     | none => have := h.2.2.2.1 rfl; omega
     | some a => cases e
 · cases A with
   | none => unfold qaD at e; split at e <;> cases e
   | some b =>
     obtain ⟨g,off,cur,rfl,hg,hs,hc⟩ := h.2.2.2.2 b rfl;unfold qaD at e
     split at e
     · injection e with e;subst e;refine ⟨g,off,cur,rfl,hg,by omega,fun j u hu => ?_⟩;have hl : j < (rowOf (xs.drop k)).length := (List.getElem?_eq_some_iff.1 hu).1;rw [qu,List.length_drop] at hl;omega
     · rw [Option.map_some,Addr.add_lit] at e;injection e with e;subst e;refine ⟨g,off + k * 3,cur,rfl,hg,by omega,fun j u hu => ?_⟩;rw [qhD,List.getElem?_drop] at hu;rw [Nat.add_assoc];exact hc _ _ hu
theorem qhE {k : Nat} (hk : k <= n) (hn : n <= cap) (W : World) : (Instr.slice 22 (.slice A n cap) (some (.int .i64 (k : Int))) none none).run Tryz.prog W = .ok (.slice (qaD A cap k) (n - k) (cap - k)) W := by
 have ht := Tryz.underlying22
 have ht' : Tryz.prog.underlying 22 = some (.slice (Tryz.prog.elem 22)) := by simp [Program.elem,ht]
 have he : Tryz.prog.elem 22 = 117 := by simp [Program.elem,ht]
 rw [run_slice_l W 22 _ _ _ ht' .i64 _ (by omega) (by omega),he,qbu]
 simp [Result.andThen,sliced,qaD]
end
section
variable {w : World} {A : Option Addr} {n cap : Nat} {xs ys : List Lay}
end
def qr (w : World) (Y : Nat -> Prop) (A : Option Addr) (n cap : Nat) (l : List Ent) : Prop :=
 ∃ xs : List Lay,Spot w A n cap xs /\ (∀ q,blkS A q -> Y q) /\ xs.map (·.e) = l /\ ∀ x ∈ xs,qs w (fun q => Y q /\ ¬ blkS A q) x
section
variable {w w' : World} {Y Y' : Nat → Prop} {A : Option Addr} {n cap : Nat} {l : List Ent}
theorem qr.nil (w : World) (Y : Nat -> Prop) : qr w Y none 0 0 [] :=
 ⟨[],⟨rfl,Nat.le_refl _,Nat.zero_le _,fun _ => rfl,fun a e => by cases e⟩,fun q h => absurd h (qiE q),rfl,fun x hx => by cases hx⟩
theorem qr.keep (h : qr w Y A n cap l) (hs : w.heap.size <= w'.heap.size) (hk : ∀ k,k < w.heap.size -> Y k -> w'.heap[k]? = w.heap[k]?) : qr w' Y A n cap l := by
 obtain ⟨xs,ho,hy,hx,hl⟩ := h;exact ⟨xs,ho.keep fun q hq => hk q (ho.lt hq) (hy q hq),hy,hx,fun x hx => (hl x hx).keep hs fun k hk' hz => hk k hk' hz.1⟩
theorem qr.below (h : qr w Y A n cap l) (hb : Below w.heap.size w w') : qr w' Y A n cap l := h.keep hb.size fun k hk _ => hb.block k hk
theorem qr.mono (h : qr w Y A n cap l) (hy : ∀ k,Y k -> Y' k) : qr w Y' A n cap l := by
 obtain ⟨xs,ho,h1,hx,hl⟩ := h;exact ⟨xs,ho,fun g hg => hy g (h1 g hg),hx,fun x hx => (hl x hx).mono fun k hk => ⟨hy k hk.1,hk.2⟩⟩
theorem qr.len (h : qr w Y A n cap l) : n = l.length /\ n <= cap /\ cap <= maxLen := by
 obtain ⟨xs,ho,_,hx,_⟩ := h;exact ⟨by rw [<- hx,List.length_map]; exact ho.1.symm,ho.2.1,ho.2.2.1⟩
theorem qr.ents (h : qr w Y A n cap l) : Ents w Y A n cap l := by
 obtain ⟨xs,ho,hy,hx,hl⟩ := h
 have := ho.ents (Z := Y) hy fun x hx => (hl x hx).mono fun k hk => hk.1
 rw [hx] at this;exact this
theorem qr.drop (h : qr w Y A n cap l) {k : Nat} (hk : k <= n) : qr w Y (qaD A cap k) (n - k) (cap - k) (l.drop k) := by
 obtain ⟨xs,ho,hy,hx,hl⟩ := h
 have hb : ∀ q,blkS (qaD A cap k) q ↔ blkS A q := fun q => qgu q ho.spotless
 refine ⟨xs.drop k,ho.drop hk,fun q hq => hy q ((hb q).1 hq),by rw [<- hx,List.map_drop],fun x hx => (hl x (List.mem_of_mem_drop hx)).mono fun q hq => ⟨hq.1,fun h => hq.2 ((hb q).1 h)⟩⟩
theorem qz.spot {B : Nat} (h : qz w B Y (.slice A n cap) l) : qr w Y A n cap l := by
 have hcap := h.cap;obtain ⟨xs,ho,hy,hx,hl⟩ := h;have hn := hcap.1;subst hn
 have hob : ∀ q,blkS A q -> (Value.slice A l.length cap).ownBlock = some q := fun q ⟨o,e⟩ => by rw [e]; rfl
 refine ⟨xs,⟨by rw [<- hx,List.length_map],hcap.2.1,hcap.2.2.1,hcap.2.2.2,fun a e => ?_⟩,fun q hq => hy q (hob q hq),hx,fun x hx => (hl x hx).mono fun q hq => ⟨hq.1,fun hb => hq.2 (hob q hb)⟩⟩;rcases ho.2 with ⟨e2,h0⟩ | ⟨g,cap',cur,e2,hb,hg,h1,h2,h3,h4⟩
 · injection e2 with e2;rw [e2] at e;cases e
 · injection e2 with e2 e3 e4;rw [e2] at e;injection e with e;subst e4;refine ⟨g,0,cur,e.symm,hg,by omega,fun j u hu => ?_⟩;rw [<- h4,List.getElem?_take] at hu
   split at hu
   · rw [Nat.zero_add]; simpa using hu
   · cases hu
end
end Go.Proofs.YtogbhedbgcmckaaGreat
set_option linter.unusedVariables false
set_option linter.unusedSimpArgs false
set_option maxRecDepth 100000
set_option maxHeartbeats 3200000
namespace Go.Proofs.YtogbhedbgcmckaaGreat
open Go.RowKit
def qd3 (w : World) (Y : Nat -> Prop) (s : Ent) (l : List Ent) (e : Ending) (w' : World) : Prop :=
 ∃ A c,e = .returned (.slice A (qT s l).length c) /\ qr w' Y A (qT s l).length c (qT s l) /\ Below w.heap.size w w'
structure BeAt (w wr : World) (s : Ent) (B : Option Addr) (bn bc : Nat) : Prop where
 box : wr.heap[w.heap.size]? = some (.cells #[.int .i64 s.i, .int .i64 s.t, .slice B bn bc] 25)
 below : Below w.heap.size w wr
theorem qdN (w : World) (Y : Nat -> Prop) (s : Ent) (B : Option Addr) (bn bc : Nat) (A : Option Addr) (len cap : Nat) (l : List Ent) (h : qr w Y A len cap l) (hm : len <= 100000) (hg : qM l) (hs : -9223372036854775808 <= s.i /\ s.i <= 1099511627776) :
 Calls Tryz.prog 59 #[entV s.i s.t B bn bc, .slice A len cap] w (qd3 w Y s l) := by
 obtain ⟨hl1,hl2,hl3⟩ := h.len;have hB0 : BeAt w (w.alloc (.cells #[.int .i64 s.i, .int .i64 s.t, .slice B bn bc] 25)) s B bn bc := ⟨heap_alloc_new _ _,(Below.refl _ _).alloc (Nat.le_refl _) _⟩;have HS := Lib.hid h;have HLL := Lib.hid hl1
 have hm' : (len : Int) <= 100000 := by omega
 clear hl1
 go_enter Tryz.func59,Tryz.ntmps59
 go_wp2
 go_loopg [9] len (fun g i wr => ∃ k : Nat,k + g = len /\ i = .int .i64 (k : Int) /\ Hid (∀ n (hn : n < l.length),n < k -> ¬ (l[n].i = s.i /\ l[n].t = s.t)) /\ BeAt w wr s B bn bc)
 case atStart => exact ⟨0,by omega,rfl,⟨fun n _ hn => absurd hn (by omega)⟩,hB0⟩
 case round =>
  clear hB0;obtain ⟨k,hk,rfl,HA,hB⟩ := hrel;have hE := (h.below hB.below).ents;obtain ⟨⟨s0,s1,s2⟩,_⟩ := row3 hB.box
  by_cases hklt : k < len
  · have hlt' : (k : Int) < (len : Int) := by omega
    have hkl : k < l.length := by have e : len = l.length := HLL; omega
    obtain ⟨g,off,E,ec,hA,hgl,c0,c1,c2,_⟩ := hE.at_ k hklt
    have hmt := fun (h1 : l[k].i = s.i) (h2 : l[k].t = s.t) => qgp hg k hkl h1 h2
    have HN := Lib.hid (show ¬ (l[k].i = s.i /\ l[k].t = s.t) -> ∀ n (hn : n < l.length),n < k + 1 -> ¬ (l[n].i = s.i /\ l[n].t = s.t) from fun h0 n hn hnk => by
     rcases Nat.lt_or_ge n k with h1 | h1
     · exact HA.out n hn h1
     · obtain rfl : n = k := by omega
       exact h0)
    generalize l[k] = x at *;obtain ⟨xi,xt,xd⟩ := x;dsimp only at *;have hb1 := hB.below;have hb2 : Below wr.heap.size wr (wr.alloc (.cells #[.int .i64 xi, .int .i64 xt, .slice E xd.length ec] 117)) := (Below.refl _ _).alloc (Nat.le_refl _) _;have HB2 := Lib.hid (show BeAt w (wr.alloc (.cells #[.int .i64 xi, .int .i64 xt, .slice E xd.length ec] 117)) s B bn bc from ⟨(hb2.block _ (hlt hB.box)).trans hB.box,hb1.trans (hb2.mono hb1.size)⟩);have hbx := hlt hB.box;have HK := Lib.hid hk
    by_cases hy : xi = s.i /\ xt = s.t
    · obtain ⟨h1,h2⟩ := hy;have hlf := hmt h1 h2
      have hsl := fun W => qhE (A := A) (n := len) (cap := cap) (k := k + 1) (by omega) (by omega) W
      have hcast : ((k + 1 : Nat) : Int) = (k : Int) + 1 := by omega
      rw [hcast] at hsl;have hD := (h.below (hb1.trans (hb2.mono hb1.size))).drop (k := k + 1) (by omega)
      have hdl : (qT s l).length = len - (k + 1) := by rw [hlf,List.length_drop]; have e : len = l.length := HLL; omega
      rw [<- hlf] at hD;have HDL := Lib.hid hdl;subst hA;generalize qaD (some ⟨g,off,none⟩) cap (k + 1) = A1 at *;generalize cap - (k + 1) = c1' at *;generalize len - (k + 1) = n1 at *;have HD := Lib.hid hD
      have q1 : (xi == s.i) = true := by simp [h1]
      have q2 : (xt == s.t) = true := by simp [h2]
      have q3 : (xi = s.i) = True := eq_true h1;have q4 : (xt = s.t) = True := eq_true h2;clear hmt HN hlf hD h1 h2 hb2 hk HA hE hcast hdl;go_wp2;go_ret;have e : (qT s l).length = n1 := HDL;refine ⟨A1,c1',by rw [e]; rfl,by rw [e]; exact HD.out,HB2.out.below⟩
    · have HNN := Lib.hid (HN.out hy);clear HN HA hmt hE hb2 hk hb1
      by_cases h1 : xi = s.i
      · have h2 : ¬ xt = s.t := fun h2 => hy ⟨h1,h2⟩
        have q1 : (xi == s.i) = true := by simp [h1]
        have q2 : (xt == s.t) = false := by simp [h2]
        have q3 : (xi = s.i) = True := eq_true h1;have q4 : (xt = s.t) = False := eq_false h2;clear h1 h2 hy;go_wp2
        go_roundg (gk - 1)
        case measure => have e : k + gk = len := HK; omega
        case rel => exact ⟨k + 1,by have e : k + gk = len := HK; omega,by go_num,⟨HNN.out⟩,HB2.out⟩
      · have q1 : (xi == s.i) = false := by simp [h1]
        have q3 : (xi = s.i) = False := eq_false h1;clear h1 hy;go_wp2
        go_roundg (gk - 1)
        case measure => have e : k + gk = len := HK; omega
        case rel => exact ⟨k + 1,by have e : k + gk = len := HK; omega,by go_num,⟨HNN.out⟩,HB2.out⟩
  · obtain rfl : k = len := by omega
    have hlf := qeN hg fun n hn => HA.out n hn (by have e : k = l.length := HLL; omega)
    by_cases h0 : 0 < k
    · obtain ⟨g,off,E,ec,hA,hgl,c0,c1,c2,_⟩ := hE.at_ 0 h0
      have hx : qdM s l = decide ((l[0]'(by have e : k = l.length := HLL; omega)).i = s.i + 1) := by
       have e : k = l.length := HLL
       cases l with
       | nil => simp at e; omega
       | cons f t => rfl
      rw [hx] at hlf;generalize l[0]'(by have e : k = l.length := HLL; omega) = x at *;obtain ⟨xi,xt,xd⟩ := x;dsimp only at *
      have c0' : wr.cell? ⟨g,off,none⟩ = some (.int .i64 xi) := by simpa using c0
      have e1 : IntKind.i64.wrap (s.i + 1) = s.i + 1 := IntWalk.i64_in _ (by omega)
      have e2 : wrap64 (s.i + 1) = s.i + 1 := by have := e1; rw [IntWalk.i64_left] at this; exact this
      obtain ⟨J,hJ⟩ : ∃ J,Hid (s.i + 1 = J) := ⟨_,⟨rfl⟩⟩;rw [hJ.out] at hlf
      replace e1 := e1.trans hJ.out
      replace e2 := e2.trans hJ.out
      have hd0 : decide (0 < k) = true := decide_eq_true h0;have hBL := hB.below;have HHB := Lib.hid hB;have hE2 := h.below hB.below;have HE2 := Lib.hid hE2;subst hA;clear hE c0 c1 c2 HA hB h hE2 hk hs
      by_cases hy : xi = J
      · rw [decide_eq_true hy,if_pos rfl] at hlf
        have q1 : (xi == J) = true := by simp [hy]
        have q2 : (xi = J) = True := eq_true hy;have HLF := Lib.hid hlf;clear hlf hx hy;go_wp2
        go_quiet (fail)
        go_wp2;go_ret;have e : qT s l = l := HLF;have e2 : k = l.length := HLL;refine ⟨some ⟨g,off,none⟩,cap,by rw [e,<- e2]; rfl,by rw [e,<- e2]; exact qr.below HE2 (qI (Below.refl _ _) _),qI hBL _⟩
      · rw [decide_eq_false hy,if_neg (by simp)] at hlf
        have q1 : (xi == J) = false := by simp [hy]
        have q2 : (xi = J) = False := eq_false hy;have HLF := Lib.hid hlf;clear hlf hx hy;go_wp2
        go_quiet (fail)
        go_wp2;go_ret;have e : qT s l = [] := HLF;refine ⟨none,0,by rw [e]; rfl,by rw [e]; exact qr.nil _ _,qI hBL _⟩
    · obtain rfl : k = 0 := by omega
      have hn0 : qT s l = [] := by
       rw [hlf];have e : 0 = l.length := HLL
       cases l with
       | nil => rfl
       | cons f t => simp at e
      have HN := Lib.hid hn0;have hBL := hB.below;clear hlf hn0 hE HA hB h s0 s1 s2 h0 hk hs;go_wp2
      go_quiet (fail)
      go_wp2;go_ret;have e : qT s l = [] := HN;refine ⟨none,0,by rw [e]; rfl,by rw [e]; exact qr.nil _ _,qI hBL _⟩
end Go.Proofs.YtogbhedbgcmckaaGreat
