/- The document's Read, Fuse, Append, each by its contract. -/
import Derived.Test.YtogbhedbgcmckaaGreatNNM09
import Derived.Test.YtogbhedbgcmckaaGreatNNM01
set_option linter.unusedVariables false
set_option linter.unusedSimpArgs false
set_option maxRecDepth 100000
set_option maxHeartbeats 200000
namespace Go.Proofs.YtogbhedbgcmckaaGreat
open Go.RowKit
end Go.Proofs.YtogbhedbgcmckaaGreat
set_option linter.unusedVariables false
set_option linter.unusedSimpArgs false
set_option maxRecDepth 100000
set_option maxHeartbeats 200000
namespace Go.Proofs.YtogbhedbgcmckaaGreat
open Go.RowKit
def RI (w : World) (K : Option Addr) (klen : Nat) (Z : Nat -> Int) : Prop :=
 (∀ j,j < klen -> -9223372036854775808 <= Z j /\ Z j <= 9223372036854775807) /\ (0 < klen -> ∃ b off,K = some ⟨b,off,none⟩ /\ b < w.heap.size /\ ∀ j,j < klen -> w.cell? ⟨b,off + j,none⟩ = some (.int .i64 (Z j)))
theorem RI.below {w w' : World} {K : Option Addr} {klen : Nat} {Z : Nat -> Int} (h : RI w K klen Z) (hb : Below w.heap.size w w') : RI w' K klen Z := by
 refine ⟨h.1,fun h0 => ?_⟩;obtain ⟨b,off,e,hg,hc⟩ := h.2 h0;exact ⟨b,off,e,Nat.lt_of_lt_of_le hg hb.size,fun j hj => (hb.cell (p := ⟨b,off + j,none⟩) hg).trans (hc j hj)⟩
end Go.Proofs.YtogbhedbgcmckaaGreat
set_option linter.unusedVariables false
set_option linter.unusedSimpArgs false
set_option maxRecDepth 100000
set_option maxHeartbeats 4000000
namespace Go.Proofs.YtogbhedbgcmckaaGreat
open Go.RowKit
theorem qhh (k m : Int) (hk : -9223372036854775808 <= k /\ k <= 9223372036854775807) (h1 : 1 <= m) (h2 : m <= 1099511627777) (w : World) :
 Calls Tryz.prog 36 #[.int .i64 k, .int .i64 m] w fun e w' => e = .returned (.int .i64 (k % m)) /\ w = w' := by
 have hback := qic k m (by omega);have hy1 := Int.lt_tmod_of_pos k (show 0 < m by omega);have hy2 := Int.tmod_lt_of_pos k (show 0 < m by omega)
 have hmz : (m == 0) = false := by simp; omega
 obtain ⟨y,hy⟩ := exq (k.tmod m);rw [hy] at hback hy1 hy2
 have hym : 0 <= y + m := by omega
 have hback2 : (y + m).tmod m = k % m := by rw [Int.tmod_eq_emod_of_nonneg hym]; exact hback
 have hyw : IntKind.i64.wrap (y + m) = y + m := IntWalk.i64_in _ (by omega);have hr1 := Int.emod_nonneg k (show m ≠ 0 by omega);have hr2 := Int.emod_lt_of_pos k (show 0 < m by omega);generalize k % m = r at *;have hyw2 : IntKind.i64.wrap r = r := IntWalk.i64_in _ (by omega);have hyw3 : IntKind.i64.wrap y = y := IntWalk.i64_in _ (by omega);clear hback
 go_enter Tryz.func36,Tryz.ntmps36
 go_wp2;go_ret;exact ⟨rfl,rfl⟩
theorem RI.rest {w : World} {K : Option Addr} {klen kcap : Nat} {Y : Nat -> Int} (h : RI w K klen Y) (h0 : 0 < klen) (hc : klen <= kcap) : RI w (qK K kcap 1) (klen - 1) (fun j => Y (1 + j)) := by
 refine ⟨fun j hj => h.1 (1 + j) (by omega),fun h1 => ?_⟩;obtain ⟨b,off,rfl,hb,hcell⟩ := h.2 h0;refine ⟨b,off + 1,qbq _ _ _ _ (by omega),hb,fun j hj => ?_⟩;rw [Nat.add_assoc];exact hcell (1 + j) (by omega)
theorem qhi (w : World) : (Go.sizeOf 3).run Tryz.prog w = .ok 1 w := by
 have : (Tryz.prog.info? 3).map (fun i => (i.zero,i.size,i.bytes)) = some (some (.int .i64 0),1,8) := by kernel_rfl
 obtain ⟨i,hi,_,hs,_⟩ := info_parts this
 simp [Go.sizeOf,typeInfo,hi,hs]
structure qa3 (w : World) (d : Nat) (D : Dsk) (M Z : Nat -> Prop) (l : List (ByteArray × FV)) (A : Option Addr) (Y : Nat -> Int) (klen : Nat) (k : Nat) (K' : Option Addr) (n' c' : Nat) (wr : World) : Prop where
 dk : ∃ t',Dt wr d { D with l := (backSt Y klen D.l k).2 } M Z noX t' /\ ∀ p ∈ l.drop k,p ∈ t'.list
 row : RP wr A l
 ra : ∀ g,A = some ⟨g,0,none⟩ -> w.heap.size <= g
 keep : RI wr K' n' (fun j => Y ((backSt Y klen D.l k).1 + j))
 kd : 0 < n' -> ∀ a,K' = some a -> a.block ≠ d
 kl : n' = klen - (backSt Y klen D.l k).1
 kc : n' <= c'
 used : qo (backSt Y klen D.l k).2 <= qo D.l
 kp : qa (· ≠ d) w wr
theorem qa3.next {w : World} {d : Nat} {D : Dsk} {M Z : Nat -> Prop} {l : List (ByteArray × FV)} {A : Option Addr} {Y : Nat -> Int} {klen k : Nat} {K' : Option Addr} {n' c' : Nat} {wr w2 : World} (h : qa3 w d D M Z l A Y klen k K' n' c' wr)
 (hno : backSt Y klen D.l (k + 1) = backSt Y klen D.l k) (hb : Below wr.heap.size wr w2) : qa3 w d D M Z l A Y klen (k + 1) K' n' c' w2 := by
 obtain ⟨t',hD,hin⟩ := h.dk;refine ⟨⟨t',by rw [hno]; exact hD.below hb,fun p hp => hin p ?_⟩,h.row.below hb (Nat.le_refl _),h.ra,by rw [hno]; exact h.keep.below hb,h.kd,by rw [hno]; exact h.kl,h.kc,by rw [hno]; exact h.used,h.kp.trans (qb hb (Nat.le_refl _))⟩;rw [<- List.drop_drop] at hp;exact List.mem_of_mem_drop hp
theorem RI.off {w w' : World} {K : Option Addr} {klen d : Nat} {Y : Nat -> Int} (h : RI w K klen Y) (hd : 0 < klen -> ∀ a,K = some a -> a.block ≠ d) (hk : qa (· ≠ d) w w') : RI w' K klen Y := by
 refine ⟨h.1,fun h0 => ?_⟩;obtain ⟨b,off,e,hb,hc⟩ := h.2 h0;exact ⟨b,off,e,Nat.lt_of_lt_of_le hb hk.size,fun j hj => (World.cell?_of_block (hk.block b hb (hd h0 _ e))).trans (hc j hj)⟩
theorem qa3.put {w : World} {d : Nat} {D : Dsk} {M Z : Nat -> Prop} {l : List (ByteArray × FV)} {A : Option Addr} {Y : Nat -> Int} {klen k : Nat} {K' K2 : Option Addr} {n' c' n2 c2 : Nat} {wr w5 : World} {t' t5 : FT} (h : qa3 w d D M Z l A Y klen k K' n' c' wr) (hk : k < l.length)
 (hl : l.map qj = D.l) (hsort : l.Pairwise fun a b => ltS a.1 b.1 = true) (hwd : d < w.heap.size) (hne : l[k].2.safe ≠ l[k].2.l.length) (hD : Dt wr d { D with l := (backSt Y klen D.l k).2 } M Z noX t') (hin : ∀ p ∈ l.drop k,p ∈ t'.list) (v' : FV)
 (hl' : v'.l = l[k].2.l.take v'.safe) (hs' : v'.safe = qbe Y klen (backSt Y klen D.l k).1 (qj l[k]))
 (hD5 : Dt w5 d { D with l := putF (backSt Y klen D.l k).2 (qj (l[k].1,v')) } M Z noX t5) (hin5 : ∀ p ∈ t'.list,p.1 ≠ l[k].1 -> p ∈ t5.list) (hkk : qa (· ≠ d) wr w5)
 (hri : RI wr K2 n2 (fun j => Y ((backSt Y klen D.l k).1 + 1 + j))) (hkd : 0 < n2 -> ∀ a,K2 = some a -> a.block ≠ d) (hkl : n2 = klen - ((backSt Y klen D.l k).1 + 1)) (hkc : n2 <= c2) : qa3 w d D M Z l A Y klen (k + 1) K2 n2 c2 w5 := by
 have hkD : k < D.l.length := by rw [<- hl,List.length_map]; exact hk
 have hDk : D.l[k] = qj l[k] := by simp [<- hl]
 have hback : back1 Y klen (backSt Y klen D.l k).1 D.l[k] = qj (l[k].1,v') := by
  rw [hDk];unfold back1;rw [<- hs'];simp only [qj,hl',qcK]
 have hyes : backSt Y klen D.l (k + 1) = ((backSt Y klen D.l k).1 + 1,putF (backSt Y klen D.l k).2 (qj (l[k].1,v'))) := by
  rw [qdC Y klen D.l k hkD (by rw [hDk]; exact hne),hback]
 have hu := hD.used (qj (l[k].1,v'));have hget : getF (backSt Y klen D.l k).2 l[k].1 = (qj (l[k].1,l[k].2),true) := hD.get (name := l[k].1) (v := l[k].2) (hin l[k] (by rw [List.drop_eq_getElem_cons hk]; exact List.mem_cons_self));have hfn : (qj (l[k].1,v')).name = l[k].1 := rfl;have e1 : (qj (l[k].1,l[k].2)).b.size = l[k].2.l.length := rfl;have e2 : (qj (l[k].1,v')).b.size = v'.l.length := rfl;dsimp only at hu;rw [hfn,hget] at hu;dsimp only at hu;rw [e1,e2,hl',List.length_take] at hu;have hu0 := h.used;refine ⟨⟨t5,by rw [hyes]; exact hD5,fun p hp => ?_⟩,h.row.keep hkk.size fun g e hg => hkk.block g hg (by have := h.ra g e; omega),h.ra,by rw [hyes]; exact hri.off hkd hkk,hkd,by rw [hyes]; exact hkl,hkc,by rw [hyes]; dsimp only; omega,h.kp.trans hkk⟩;have hd1 : l.drop k = l[k] :: l.drop (k + 1) := List.drop_eq_getElem_cons hk;refine hin5 p (hin p (by rw [hd1]; exact List.mem_cons_of_mem _ hp)) fun e => ?_;have hs2 := hsort;rw [<- List.take_append_drop k l,List.pairwise_append,hd1,List.pairwise_cons] at hs2;have := hs2.2.1.1 p hp;rw [e,qah] at this;cases this
theorem qgh (w : World) (d : Nat) (D : Dsk) (M Z : Nat -> Prop) (K : Option Addr) (klen kcap : Nat) (Y : Nat -> Int) (h : DkG w d D M Z) (hg : Good D) (hM : ∀ k,M k -> k < w.heap.size) (hZ : ∀ k,Z k -> k < w.heap.size)
 (hK : RI w K klen Y) (hkl : klen <= 2147483647) (hkc : klen <= kcap) (hkd : 0 < klen -> ∀ a,K = some a -> a.block ≠ d) :
 Calls Tryz.prog 18 #[.pointer (some ⟨d,0,none⟩), .slice K klen kcap] w fun e w' => e = .returned (.tuple #[]) /\ DkG w' d (D.restart Y klen) M Z /\ qa (· ≠ d) w w' := by
 obtain ⟨t,h⟩ := h;obtain ⟨u,hbx,hr⟩ := h.box;have hd := h.lt;obtain ⟨⟨a0,a1,a2,a3,a4⟩,_⟩ := row5 hbx;have hsz := h.size;have hlen := hg.len;have hus := hg.usedN;have hfil := Lib.hid h.fil;have hsort := Lib.hid (show t.list.Pairwise (fun a b => ltS a.1 b.1 = true) from h.bst);have hl1 : t.list.length = t.size := Tr.length_list t;have hAll := MapFl.all_map t u w hr (by omega)
 have hsafe : ∀ k (hk : k < t.list.length),t.list[k].2.safe <= t.list[k].2.l.length /\ t.list[k].2.l.length <= 1048576 := fun k hk => by
  have hm : t.list[k] ∈ t.list := List.getElem_mem hk;have h1 := (hg.fils.each (qj t.list[k]) (by rw [<- h.fil]; exact List.mem_map_of_mem hm)).2.1;have h2 := h.len (name := t.list[k].1) (v := t.list[k].2) hm;exact ⟨h1,by omega⟩
 have hst := qg2 Y klen D.l
 have hS0 : ∀ w2 A,Below w.heap.size w w2 -> RP w2 A t.list -> (∀ g,A = some ⟨g,0,none⟩ -> w.heap.size <= g) -> qa3 w d D M Z t.list A Y klen 0 K klen kcap w2 := fun w2 A hb hrp hra =>
  ⟨⟨t,h.below hb,fun p hp => by simpa using hp⟩,hrp,hra,by simpa [backSt] using hK.below hb,hkd,by simp [backSt],hkc,by simp [backSt],qb hb (Nat.le_refl _)⟩
 generalize t.list = l at *;generalize t.size = n at *
 have hlD : D.l.length = n := by omega
 have hn' : (n : Int) <= 1048576 := by omega
 have HX := Lib.hid hbx;clear h hbx hr hlen a0 a1 a3 a4 hg hK hsz
 go_enter Tryz.func18,Tryz.ntmps18
 go_wp2_with (first
  | (go_at_call 34
     refine hAll.mono ?_
     rintro e w2 ⟨A,c,rfl,ho2,hb2⟩)
  | fail)
 have hrp := RP.of_own ho2;have hS := hS0 w2 A hb2 hrp.1 hrp.2;clear ho2 hrp hb2 hS0 hAll a2;go_wp2
 go_loopg [1,16] n (fun g K1 i wr => ∃ (k : Nat) (K' : Option Addr) (n' c' : Nat),i = .int .i64 (k : Int) /\ k + g = n /\ K1 = .slice K' n' c' /\ qa3 w d D M Z l A Y klen k K' n' c' wr)
 case atStart => exact ⟨0,K,klen,kcap,rfl,by omega,rfl,hS⟩
 case round =>
  clear hS;obtain ⟨k,K',n',c',rfl,hk,rfl,hS⟩ := hrel
  by_cases hlt : k < n
  · have hlt' : (k : Int) < (n : Int) := by omega
    obtain ⟨gA,rfl,hgA,hc⟩ := hS.row (by omega);obtain ⟨c0,c1,c2⟩ := hc k (by omega);obtain ⟨hs1,hs2⟩ := hsafe k (by omega);clear hc
    have hWt := fun w' => qee l[k].2 w' hs1 (by omega)
    have hbw : Below wr.heap.size wr (wr.alloc (.cells #[.string l[k].1,fvS l[k].2,fvN l[k].2] 95)) := (Below.refl _ _).alloc (Nat.le_refl _) _
    by_cases hfe : l[k].2.safe = l[k].2.l.length
    · have hq : (((l[k].2.l.length : Nat) : Int) - ((l[k].2.safe : Nat) : Int) == 0) = true := by simp; omega
      have hno := qeg Y klen D.l k (by omega) (by
       have : D.l[k]'(by omega) = qj l[k] := by simp [<- hfil.out]
       rw [this]; exact hfe)
      have HN := Lib.hid (fun w2 (hb : Below wr.heap.size wr w2) => hS.next hno hb);clear hno hfe
      go_wp2_with (first
       | (go_at_call 35
          refine (hWt _).mono ?_;rintro e w1 ⟨rfl,hb1⟩
          have hb := hbw.trans (hb1.mono hbw.size))
       | fail)
      go_roundg (gk - 1)
      case measure => omega
      case rel => exact ⟨k + 1,K',n',c',by go_num,by omega,rfl,HN.out _ hb⟩
    · obtain ⟨t',hD,hin⟩ := hS.dk
      have hq : (((l[k].2.l.length : Nat) : Int) - ((l[k].2.safe : Nat) : Int) == 0) = false := by simp; omega
      have e1 : IntKind.i64.wrap (((l[k].2.l.length : Nat) : Int) - ((l[k].2.safe : Nat) : Int) + 1) = ((l[k].2.l.length : Nat) : Int) - ((l[k].2.safe : Nat) : Int) + 1 := IntWalk.i64_in _ (by omega)
      have hm1 : 1 <= ((l[k].2.l.length : Nat) : Int) - ((l[k].2.safe : Nat) : Int) + 1 := by omega
      have hm2 : ((l[k].2.l.length : Nat) : Int) - ((l[k].2.safe : Nat) : Int) + 1 <= 1099511627777 := by omega
      have hlt1 := qe8 Y klen (backSt Y klen D.l k).1 (((l[k].2.l.length : Nat) : Int) - ((l[k].2.safe : Nat) : Int) + 1) (by omega);have hleft : qbe Y klen (backSt Y klen D.l k).1 (qj l[k]) = l[k].2.safe + stays Y klen (backSt Y klen D.l k).1 (((l[k].2.l.length : Nat) : Int) - ((l[k].2.safe : Nat) : Int) + 1) := rfl;have hstd : stays Y klen (backSt Y klen D.l k).1 (((l[k].2.l.length : Nat) : Int) - ((l[k].2.safe : Nat) : Int) + 1) = if (backSt Y klen D.l k).1 < klen then (Y (backSt Y klen D.l k).1 % (((l[k].2.l.length : Nat) : Int) - ((l[k].2.safe : Nat) : Int) + 1)).toNat else 0 := rfl;generalize stays Y klen (backSt Y klen D.l k).1 (((l[k].2.l.length : Nat) : Int) - ((l[k].2.safe : Nat) : Int) + 1) = st at hlt1 hleft hstd;obtain ⟨sf,hsf⟩ := exq (l[k].2.safe + st)
      have hsfl : sf <= l[k].2.l.length := by omega
      have e2 : IntKind.i64.wrap (((l[k].2.safe : Nat) : Int) + (st : Int)) = (sf : Int) := by rw [IntWalk.i64_in _ (by omega)]; omega
      have hmem : (l[k].1,l[k].2) ∈ t'.list := hin l[k] (by rw [List.drop_eq_getElem_cons (by omega)]; exact List.mem_cons_self);have hrow := hD.row _ hmem (fun h => h);have hswr : w.heap.size <= wr.heap.size := hS.kp.size
      have hM1 : ∀ k,M k -> k < wr.heap.size := fun k hk => Nat.lt_of_lt_of_le (hM k hk) hswr
      have hZ1 : ∀ k,Z k -> k < wr.heap.size := fun k hk => Nat.lt_of_lt_of_le (hZ k hk) hswr
      have hFi := fun w' (hb : Below wr.heap.size wr w') => qef l[k].2 sf w' (hrow.own.keep fun g hg => hb.block g (hrow.lt hg)) hsfl (by omega) hrow.own.capMax
      have hSe := fun w' (v' : FV) (hb : Below wr.heap.size wr w') (hv : FRow w' 0 v') (hvb : ∀ g,blk v' = some g -> blk l[k].2 = some g \/ wr.heap.size <= g) (hvl : v'.l.length <= 2000000000) =>
       qb9 w' d { D with l := (backSt Y klen D.l k).2 } M Z t' l[k].1 v' ((hD.below hb).weak _) (fun k hk => Nat.lt_of_lt_of_le (hM1 k hk) hb.size) hv (hD.pre (w1 := w') hM1 hZ1 hmem hvb).1 (hD.pre (w1 := w') hM1 hZ1 hmem hvb).2
        (by have := hS.used; dsimp only; omega) hvl (by rw [hD.size]; have := (hst k).1; dsimp only; omega)
      have hkll : k < l.length := by omega
      have HP := Lib.hid (fun (w5 : World) (v' : FV) (t5 : FT) (K2 : Option Addr) (n2 c2 : Nat) (hl' : v'.l = l[k].2.l.take sf) (hs' : v'.safe = sf) (hD5 : Dt w5 d { D with l := putF (backSt Y klen D.l k).2 (qj (l[k].1,v')) } M Z noX t5) (hin5 : ∀ p ∈ t'.list,p.1 ≠ l[k].1 -> p ∈ t5.list) (hkk : qa (· ≠ d) wr w5) hri hkd2 hkl2 hkc2 =>
       qa3.put (w5 := w5) (t5 := t5) (K2 := K2) (n2 := n2) (c2 := c2) hS hkll hfil.out hsort.out hd hfe hD hin v' (by rw [hs']; exact hl') (by rw [hs',hleft,hsf]) hD5 hin5 hkk hri hkd2 hkl2 hkc2)
      have hkeep := hS.keep;have hkd1 := hS.kd;have hkl1 := hS.kl;have hkc1 := hS.kc
      have hkn : n' <= 2147483647 := by omega
      have hneD : wr.heap.size ≠ d := by omega
      clear hrow hmem hin hD hS hM1 hZ1 hleft hfe hsafe hst;generalize (backSt Y klen D.l k).1 = cc at *;have HKL := Lib.hid hkl1
      by_cases hn0 : 0 < n'
      · have hn0' : (0 : Int) < (n' : Int) := by omega
        have hri := hkeep.rest hn0 hkc1;obtain ⟨b,off,rfl,hbb,hcz⟩ := hkeep.2 hn0;have hcz0 := hcz 0 hn0;have hYr := hkeep.1 0 hn0;dsimp only at hcz0 hYr;rw [Nat.add_zero] at hcz0 hYr
        have hst0 : Y cc % (((l[k].2.l.length : Nat) : Int) - ((l[k].2.safe : Nat) : Int) + 1) = (st : Int) := by
         rw [if_pos (by omega)] at hstd;have := Int.emod_nonneg (Y cc) (show ((l[k].2.l.length : Nat) : Int) - ((l[k].2.safe : Nat) : Int) + 1 ≠ 0 by omega);omega
        have hMo := qhh (Y cc) (((l[k].2.l.length : Nat) : Int) - ((l[k].2.safe : Nat) : Int) + 1) hYr hm1 hm2;rw [hst0] at hMo;have hSl : ∀ W,(Instr.slice 28 (.slice (some ⟨b,off,none⟩) n' c') (some (.int .i64 1)) none none).run Tryz.prog W = .ok (.slice (qK (some ⟨b,off,none⟩) c' 1) (n' - 1) (c' - 1)) W := fun W => qcf (P := Tryz.prog) Tryz.underlying28 qhi (some ⟨b,off,none⟩) n' c' 1 (by omega) hkc1 W;have hne2 : b ≠ d := hkd1 hn0 _ rfl
        have hR2 : 0 < n' - 1 -> ∀ a,qK (some ⟨b,off,none⟩) c' 1 = some a -> a.block ≠ d := fun h0 a e q => by
         rw [qbq _ _ _ _ (by omega)] at e;injection e with e;subst e;exact hne2 q
        generalize qK (some ⟨b,off,none⟩) c' 1 = R at *;clear hcz hkeep hst0 hstd hkl1;generalize Y cc = y at *
        go_wp2_with (first
         | (go_at_call 35
            refine (hWt _).mono ?_;rintro e w1 ⟨rfl,hb1⟩;have hb := hbw.trans (hb1.mono hbw.size);have hrr := (hb1.block wr.heap.size (by simp)).trans (heap_alloc_new _ _);obtain ⟨⟨j0,j1,j2⟩,_⟩ := row3 hrr;have hz1 : wr.heap.size < w1.heap.size := Go.Proofs.YtogbhedbgcmckaaGreat.hlt hrr
            have z0 := (hb.cell (p := ⟨b,off,none⟩) hbb).trans hcz0)
         | fail)
        go_quiet ((go_at_call 36; exact Calls.quiet_of_same ((hMo _).mono fun e w' h => ⟨h.1,h.2.symm⟩)))
        go_wp2_with fail
        have hbq := below_drewN hb nq;have i0 : (w1.drewN nq).cell? ⟨wr.heap.size,0,none⟩ = some (.string l[k].1) := j0;have i1 : (w1.drewN nq).cell? ⟨wr.heap.size,1,none⟩ = some (fvS l[k].2) := j1;have i2 : (w1.drewN nq).cell? ⟨wr.heap.size,2,none⟩ = some (fvN l[k].2) := j2;have hz2 : wr.heap.size < (w1.drewN nq).heap.size := hz1;clear j0 j1 j2 hz1 hb hb1 hrr z0 hMo hWt;generalize w1.drewN nq = W9 at *
        go_region_held3 (fun w' => w'.cell? ⟨wr.heap.size,0,none⟩ = some (.string l[k].1) /\ w'.cell? ⟨wr.heap.size,1,none⟩ = some (fvS l[k].2) /\ w'.cell? ⟨wr.heap.size,2,none⟩ = some (fvN l[k].2))
         (first | (go_keep; done) | exact ⟨i0,i1,i2⟩ | exact ⟨r0,r1,r2⟩ | exact ⟨q0,q1,q2⟩)
         (first
         | (go_at_call 38
            refine (hFi _ (by repeat (first | exact hbq | apply Below.drew | apply below_drewN))).mono ?_;rintro e w3 ⟨v',rfl,hl',hs',hv',hvb,hb3⟩;have r0 := (hb3.cell (p := ⟨wr.heap.size,0,none⟩) hz2).trans i0;have r1 := (hb3.cell (p := ⟨wr.heap.size,1,none⟩) hz2).trans i1;have r2 := (hb3.cell (p := ⟨wr.heap.size,2,none⟩) hz2).trans i2;have hb03 : Below wr.heap.size wr w3 := Tr.below_of hb3 (by repeat (first | exact hbq | apply Below.drew | apply below_drewN))
            have hz3 : wr.heap.size < w3.heap.size := Nat.lt_of_lt_of_le hz2 hb3.size)
         | (go_at_call 37
            refine (hSe _ v' hb03 hv' (fun g hg => (hvb g hg).imp id (fun h => Nat.le_trans hbq.size h)) (by rw [hl',List.length_take]; omega)).mono ?_;rintro e w5 ⟨rfl,t5,hD5,_,hin5,hk5⟩
            have hx : ∀ o,w5.cell? ⟨wr.heap.size,o,none⟩ = w3.cell? ⟨wr.heap.size,o,none⟩ := fun o => World.cell?_of_block (hk5.block wr.heap.size hz3 hneD)
            have q0 := (hx 0).trans r0;have q1 := (hx 1).trans r1;have q2 := (hx 2).trans r2;clear hx
            have HB := Lib.hid (HP.out w5 v' t5 R (n' - 1) (c' - 1) hl' hs' hD5 hin5 ((qb hb03 (Nat.le_refl _)).trans hk5) (by
             have := hri;simp only [<- Nat.add_assoc] at this
             exact this) hR2 (by have := HKL.out; omega) (by omega))
            clear hD5 hin5 hk5))
        go_wp2
        go_roundg (gk - 1)
        case measure => omega
        case rel => exact ⟨k + 1,_,_,_,by go_num,by omega,rfl,HB.out⟩
      · have hn0' : ¬ ((0 : Int) < (n' : Int)) := by omega
        have hst0 : st = 0 := by
         rw [if_neg (by omega)] at hstd;exact hstd
        subst hst0;rw [Int.natCast_zero,Int.add_zero] at e2;clear hstd hkeep hkl1
        go_wp2_with (first
         | (go_at_call 35
            refine (hWt _).mono ?_;rintro e w1 ⟨rfl,hb1⟩;have hb := hbw.trans (hb1.mono hbw.size);have hrr := (hb1.block wr.heap.size (by simp)).trans (heap_alloc_new _ _);obtain ⟨⟨j0,j1,j2⟩,_⟩ := row3 hrr
            have hz1 : wr.heap.size < w1.heap.size := Go.Proofs.YtogbhedbgcmckaaGreat.hlt hrr)
         | fail)
        go_region_held3 (fun w' => w'.cell? ⟨wr.heap.size,0,none⟩ = some (.string l[k].1) /\ w'.cell? ⟨wr.heap.size,1,none⟩ = some (fvS l[k].2) /\ w'.cell? ⟨wr.heap.size,2,none⟩ = some (fvN l[k].2))
         (first | (go_keep; done) | exact ⟨j0,j1,j2⟩ | exact ⟨r0,r1,r2⟩ | exact ⟨q0,q1,q2⟩)
         (first
         | (go_at_call 38
            refine (hFi _ (by repeat (first | exact hb | apply Below.drew | apply below_drewN))).mono ?_;rintro e w3 ⟨v',rfl,hl',hs',hv',hvb,hb3⟩;have r0 := (hb3.cell (p := ⟨wr.heap.size,0,none⟩) hz1).trans j0;have r1 := (hb3.cell (p := ⟨wr.heap.size,1,none⟩) hz1).trans j1;have r2 := (hb3.cell (p := ⟨wr.heap.size,2,none⟩) hz1).trans j2;have hb03 : Below wr.heap.size wr w3 := Tr.below_of hb3 (by repeat (first | exact hb | apply Below.drew | apply below_drewN))
            have hz3 : wr.heap.size < w3.heap.size := Nat.lt_of_lt_of_le hz1 hb3.size)
         | (go_at_call 37
            refine (hSe _ v' hb03 hv' (fun g hg => (hvb g hg).imp id (fun h => Nat.le_trans hb.size h)) (by rw [hl',List.length_take]; omega)).mono ?_;rintro e w5 ⟨rfl,t5,hD5,_,hin5,hk5⟩
            have hx : ∀ o,w5.cell? ⟨wr.heap.size,o,none⟩ = w3.cell? ⟨wr.heap.size,o,none⟩ := fun o => World.cell?_of_block (hk5.block wr.heap.size hz3 hneD)
            have q0 := (hx 0).trans r0;have q1 := (hx 1).trans r1;have q2 := (hx 2).trans r2;clear hx;have HB := Lib.hid (HP.out w5 v' t5 K' n' c' hl' hs' hD5 hin5 ((qb hb03 (Nat.le_refl _)).trans hk5) ⟨fun j hj => absurd hj (by omega),fun h0 => absurd h0 (by omega)⟩ (fun h0 => absurd h0 (by omega)) (by have := HKL.out; omega) hkc1)
            clear hD5 hin5 hk5))
        go_wp2
        go_roundg (gk - 1)
        case measure => omega
        case rel => exact ⟨k + 1,_,_,_,by go_num,by omega,rfl,HB.out⟩
  · obtain rfl : k = n := by omega
    have hdec : decide ((k : Int) < (k : Int)) = false := decide_eq_false (by omega);obtain ⟨t',hD,_⟩ := hS.dk;obtain ⟨u',hbx',_⟩ := hD.box;obtain ⟨⟨a0,a1,a2,a3,a4⟩,⟨f0,f1,f2,f3,f4⟩⟩ := row5 hbx'
    have hres : D.restart Y klen = { D with l := (backSt Y klen D.l k).2,set := false,n := 0,lost := false } := by unfold Dsk.restart; rw [hlD]
    have HK := Lib.hid (hS.kp.trans ((qx (i := 3) (.int .i64 (-1))).trans (qx (i := 4) (.bool false))))
    have HF : Hid (Dt ((wr.setCell ⟨d,3,none⟩ (.int .i64 (-1))).setCell ⟨d,4,none⟩ (.bool false)) d (D.restart Y klen) M Z noX t') := ⟨by
     rw [hres];refine hD.turn ((qx _).trans (qx _)) (u := u') ?_ (fun cs hc => ?_) rfl
     · rw [setCell_at (wr.setCell ⟨d,3,none⟩ (.int .i64 (-1))) ⟨d,4,none⟩ _ _ _ _ rfl (setCell_at wr ⟨d,3,none⟩ _ _ _ _ rfl hbx')]
       rfl
     · rw [hbx'] at hc;injection hc with hc;injection hc with hc;subst hc
       rfl⟩
    clear hS hD hbx' hres hst hsafe;go_wp2;refine bodyPost_end (results_none rfl _ _ _) rfl ?_;exact ⟨rfl,⟨t',HF.out⟩,HK.out⟩
end Go.Proofs.YtogbhedbgcmckaaGreat
set_option linter.unusedVariables false
set_option linter.unusedSimpArgs false
set_option maxRecDepth 100000
set_option maxHeartbeats 200000
namespace Go.Proofs.YtogbhedbgcmckaaGreat
open Go.RowKit
abbrev dptr (d : Nat) : Value := .pointer (some ⟨d,0,none⟩)
structure Dk (w : World) (d : Nat) (D : Dsk) (Z : Nat -> Prop) : Prop where
 dk : DkG w d D Z Z
 good : Good D
 old : ∀ k,Z k -> k < w.heap.size
theorem DkG.carry {w w' : World} {d : Nat} {D : Dsk} {M M' Z Z' : Nat -> Prop} (h : DkG w d D M Z) (hs : w.heap.size <= w'.heap.size) (hM : ∀ k,M' k -> M k \/ w.heap.size <= k) (hZ : ∀ k,Z' k -> Z k \/ w.heap.size <= k) (hb : ∀ k,k < w.heap.size -> ¬ M k -> w'.heap[k]? = w.heap[k]?) : DkG w' d D M' Z' := by
 obtain ⟨t,h⟩ := h;exact ⟨t,h.carry hs hM hZ hb⟩
theorem DkG.own {w : World} {d : Nat} {D : Dsk} {M Z : Nat -> Prop} (h : DkG w d D M Z) : ¬ Z d /\ d < w.heap.size := by
 obtain ⟨t,h⟩ := h;exact ⟨h.own.2,h.lt⟩
theorem qat {w w' w0 : World} {d : Nat} {D : Dsk} {Z : Nat -> Prop} (h : DkG w0 d D Z Z) (hk : qa (· ≠ d) w w') : qa Z w w' := hk.mono fun k hz e => h.own.1 (e ▸ hz)
theorem qa.old {w w' : World} {Z Y : Nat -> Prop} (hk : qa Y w w') (h : ∀ k,Z k -> k < w.heap.size) : ∀ k,Z k -> k < w'.heap.size := fun k hz => Nat.lt_of_lt_of_le (h k hz) hk.size
theorem Dk.keep {w w' : World} {d : Nat} {D : Dsk} {Z : Nat -> Prop} (h : Dk w d D Z) (hs : w.heap.size <= w'.heap.size) (hb : ∀ k,k < w.heap.size -> ¬ Z k -> w'.heap[k]? = w.heap[k]?) : Dk w' d D Z :=
 ⟨h.dk.carry hs (fun k hk => .inl hk) (fun k hk => .inl hk) hb,h.good,fun k hk => Nat.lt_of_lt_of_le (h.old k hk) hs⟩
theorem Dk.below {w w' : World} {d : Nat} {D : Dsk} {Z : Nat -> Prop} (h : Dk w d D Z) (hb : Below w.heap.size w w') : Dk w' d D Z := h.keep hb.size fun k hk _ => hb.block k hk
theorem Dk.wide {w w' : World} {d : Nat} {D : Dsk} {Z : Nat -> Prop} (h : Dk w d D Z) (hb : Below w.heap.size w w') : Dk w' d D (fun k => Z k \/ w.heap.size <= k /\ k < w'.heap.size) :=
 ⟨h.dk.carry hb.size (fun k hk => hk.elim .inl fun q => .inr q.1) (fun k hk => hk.elim .inl fun q => .inr q.1) fun k hk _ => hb.block k hk,h.good,fun k hk => hk.elim (fun q => Nat.lt_of_lt_of_le (h.old k q) hb.size) fun q => q.2⟩
theorem Dk.less {w : World} {d : Nat} {D : Dsk} {Z Z' : Nat -> Prop} (h : Dk w d D Z) (hz : ∀ k,Z' k -> Z k) : Dk w d D Z' :=
 ⟨h.dk.carry (Nat.le_refl _) (fun k hk => .inl (hz k hk)) (fun k hk => .inl (hz k hk)) fun _ _ _ => rfl,h.good,fun k hk => h.old k (hz k hk)⟩
theorem qjP (room : Int) (h0 : 0 <= room) (h1 : room <= 1048576) : Good ⟨room,[],false,0,false⟩ :=
 ⟨⟨h0,h1⟩,⟨List.Pairwise.nil,fun f hf => by cases hf⟩,by show ((0 : Nat) : Int) <= room; omega,by show (0 : Int) <= 0 /\ (0 : Int) <= _; omega⟩
def Did (w w' : World) (d : Nat) (D : Dsk) (Z : Nat -> Prop) : Prop := Dk w' d D Z /\ qa Z w w'
section
variable (w : World) (d : Nat) (D : Dsk) (Z : Nat → Prop) (h : Dk w d D Z) (name : ByteArray)
theorem qgL (room : Int) (hZ : ∀ k,Z k -> k < w.heap.size) (h0 : 0 <= room) (h1 : room <= 1048576) : Calls Tryz.prog 16 #[.int .i64 room] w fun e w' => ∃ d,e = .returned (.tuple #[dptr d, .int .i64 0]) /\ Dk w' d ⟨room,[],false,0,false⟩ Z /\ Below w.heap.size w w' :=
 (qkF room w Z Z h0 h1 hZ hZ).mono fun e w' ⟨d,he,hD,hb⟩ => ⟨d,he,⟨hD,qjP room h0 h1,fun k hk => Nat.lt_of_lt_of_le (hZ k hk) hb.size⟩,hb⟩
include h
theorem qhj (A : Option Addr) (cap : Nat) (l : List UInt8) (hl : Lies w A l.length cap l) (hb : l.length <= 2147483647) : Calls Tryz.prog 161 #[dptr d, .string name, .slice A l.length cap] w fun e w' => e = .returned (.int .i64 (((D.append name ⟨l.toArray⟩).2 : Nat) : Int)) /\ Did w w' d (D.append name ⟨l.toArray⟩).1 Z :=
 (qhg w d D Z Z name A cap l h.dk h.good h.old h.old hl hb).mono fun e w' ⟨he,hD,hk⟩ => ⟨he,⟨hD,h.good.append _ _,hk.old h.old⟩,hk⟩
theorem qjQ : Calls Tryz.prog 162 #[dptr d, .string name] w fun e w' => e = .returned (.int .i64 (((D.sync name).2 : Nat) : Int)) /\ Did w w' d (D.sync name).1 Z :=
 (qjK w d D Z Z name h.dk h.good h.old h.old).mono fun e w' ⟨he,hD,hk⟩ => ⟨he,⟨hD,h.good.sync _,hk.old h.old⟩,qat h.dk hk⟩
theorem qgM (n : Int) (hn : -9223372036854775808 <= n /\ n <= 9223372036854775807) : Calls Tryz.prog 109 #[dptr d, .string name, .int .i64 n] w fun e w' => e = .returned (.int .i64 (((D.cut name n).2 : Nat) : Int)) /\ Did w w' d (D.cut name n).1 Z :=
 (qkE w d D Z Z name n hn h.dk h.good h.old h.old).mono fun e w' ⟨he,hD,hk⟩ => ⟨he,⟨hD,h.good.cut _ _,hk.old h.old⟩,qat h.dk hk⟩
theorem qhk (b : ByteArray) : Calls Tryz.prog 163 #[dptr d, .string name, .string b] w fun e w' => e = .returned (.int .i64 (((D.rename name b).2 : Nat) : Int)) /\ Did w w' d (D.rename name b).1 Z :=
 (qhf w d D Z Z name b h.dk h.good h.old h.old).mono fun e w' ⟨he,hD,hk⟩ => ⟨he,⟨hD,h.good.rename _ _,hk.old h.old⟩,qat h.dk hk⟩
theorem qhl : Calls Tryz.prog 160 #[dptr d, .string name] w fun e w' => e = .returned (.int .i64 (((D.remove name).2 : Nat) : Int)) /\ Did w w' d (D.remove name).1 Z :=
 (qhe w d D Z Z name h.dk h.good h.old h.old).mono fun e w' ⟨he,hD,hk⟩ => ⟨he,⟨hD,h.good.remove _,hk.old h.old⟩,qat h.dk hk⟩
theorem qcj : Calls Tryz.prog 106 #[dptr d, .string name] w fun e w' => ∃ A cap,e = .returned (.tuple #[.slice A (D.read name).1.size cap, .int .i64 (((D.read name).2 : Nat) : Int)]) /\ Lies w' A (D.read name).1.size cap (D.read name).1.data.toList /\ Below w.heap.size w w' :=
 (qjO w d D Z Z name h.dk h.good).mono fun e w' ⟨A,cap,he,hl,hn,hb,_⟩ => ⟨A,cap,he,hl,hb⟩
theorem qjR (n : Int) (hn : n <= 9223372036854775807) : Calls Tryz.prog 17 #[dptr d, .int .i64 n] w fun e w' => e = .returned (.int .i64 (((D.fuse n).2 : Nat) : Int)) /\ Did w w' d (D.fuse n).1 Z :=
 (qjM w d D Z Z n h.dk).mono fun e w' ⟨he,hD,hk⟩ => ⟨he,⟨hD,h.good.fuse _ hn,(qat h.dk hk).old h.old⟩,qat h.dk hk⟩
theorem qgi (K : Option Addr) (klen kcap : Nat) (Y : Nat -> Int) (hK : RI w K klen Y) (hl : klen <= 2147483647) (hc : klen <= kcap) (hd : 0 < klen -> ∀ a,K = some a -> a.block ≠ d) : Calls Tryz.prog 18 #[dptr d, .slice K klen kcap] w fun e w' => e = .returned (.tuple #[]) /\ Did w w' d (D.restart Y klen) Z :=
 (qgh w d D Z Z K klen kcap Y h.dk h.good h.old h.old hK hl hc hd).mono fun e w' ⟨he,hD,hk⟩ => ⟨he,⟨hD,h.good.restart _ _,(qat h.dk hk).old h.old⟩,qat h.dk hk⟩
end
end Go.Proofs.YtogbhedbgcmckaaGreat
set_option linter.unusedVariables false
set_option linter.unusedSimpArgs false
set_option maxRecDepth 100000
set_option maxHeartbeats 200000
namespace Go.Proofs.YtogbhedbgcmckaaGreat
def bit1 (c : Nat) : Nat := if c % 2 = 1 then c / 2 ^^^ 3988292384 else c / 2
def bitsN : Nat -> Nat -> Nat
 | 0,c => c
 | n + 1,c => bit1 (bitsN n c)
def qhm (c : Nat) (b : UInt8) : Nat := bitsN 8 (c ^^^ b.toNat)
def qau (l : List UInt8) (c : Nat) : Nat := l.foldl qhm c
def moreN (s : Nat) (l : List UInt8) : Nat := qau l (s ^^^ 4294967295) ^^^ 4294967295
theorem qkG (c : Nat) (h : c < 4294967296) : bit1 c < 4294967296 := by
 unfold bit1
 split
 · exact Nat.xor_lt_two_pow (n := 32) (by omega) (by omega)
 · omega
theorem qfk (n c : Nat) (h : c < 4294967296) : bitsN n c < 4294967296 := by
 induction n with
 | zero => exact h
 | succ n ih => exact qkG _ ih
theorem qcL (a b : Nat) (ha : a < 4294967296) (hb : b < 4294967296) : a ^^^ b < 4294967296 := Nat.xor_lt_two_pow (n := 32) ha hb
theorem byteN_lt (c : Nat) (b : UInt8) (h : c < 4294967296) : qhm c b < 4294967296 :=
 qfk _ _ (qcL _ _ h (Nat.lt_trans b.toNat_lt (by decide)))
theorem qfl (l : List UInt8) : ∀ c,c < 4294967296 -> qau l c < 4294967296 := by
 induction l with
 | nil => intro c h; exact h
 | cons b l ih => intro c h; exact ih _ (byteN_lt c b h)
theorem qbE (s : Nat) (l : List UInt8) (h : s < 4294967296) : moreN s l < 4294967296 :=
 qcL _ _ (qfl l _ (qcL _ _ h (by decide))) (by decide)
theorem qhn (l : List UInt8) (b : UInt8) (c : Nat) : qau (l ++ [b]) c = qhm (qau l c) b := by simp [qau]
end Go.Proofs.YtogbhedbgcmckaaGreat
set_option linter.unusedVariables false
set_option linter.unusedSimpArgs false
set_option maxRecDepth 100000
set_option maxHeartbeats 200000
namespace Go.Proofs.YtogbhedbgcmckaaGreat
def sumL (r : List UInt8) : Nat := moreN (moreN 0 (wide r.length 4)) r
def qae (r : List UInt8) : List UInt8 := wide r.length 4 ++ (wide (sumL r) 4 ++ r)
theorem qG (r : List UInt8) : (qae r).length = r.length + 8 := by simp [qae]; omega
theorem qkH (r : List UInt8) : sumL r < 4294967296 := qbE _ _ (qbE _ _ (by omega))
def framesL (l : List (List UInt8)) : List UInt8 := l.flatMap qae
theorem qbF (r : List UInt8) (l : List (List UInt8)) : framesL (r :: l) = qae r ++ framesL l := rfl
theorem qgj (a b : List (List UInt8)) : framesL (a ++ b) = framesL a ++ framesL b := List.flatMap_append
def qO (b : List UInt8) : Option (List UInt8) :=
 if b.length < 8 then none else
 if 60000 < num (b.take 4) \/ b.length - 8 < num (b.take 4) then none else
 if qae ((b.drop 8).take (num (b.take 4))) = b.take (8 + num (b.take 4)) then some ((b.drop 8).take (num (b.take 4))) else none
theorem qaG {b r : List UInt8} (h : qO b = some r) : b = qae r ++ b.drop (r.length + 8) /\ r.length <= 60000 := by
 unfold qO at h
 split at h
 · cases h
 · rename_i h8
   split at h
   · cases h
   · rename_i hn
     split at h
     · rename_i he;injection h with h
       have hlen : r.length = num (b.take 4) := by
        rw [<- h,List.length_take,List.length_drop];omega
       refine ⟨?_,by omega⟩;rw [h] at he;rw [hlen,he,Nat.add_comm,List.take_append_drop]
     · cases h
def qbT : Nat -> List UInt8 -> List (List UInt8) × Nat
 | 0,_ => ([],0)
 | g + 1,b => match qO b with
   | none => ([],0)
   | some r => (r :: (qbT g (b.drop (r.length + 8))).1,r.length + 8 + (qbT g (b.drop (r.length + 8))).2)
def qB (b : List UInt8) : List (List UInt8) × Nat := qbT b.length b
theorem qdG : ∀ (g h : Nat) (b : List UInt8),b.length <= g -> b.length <= h -> qbT g b = qbT h b
 | 0,0,_,_,_ => rfl
 | 0,h + 1,b,hg,_ => by
   have : b = [] := List.eq_nil_of_length_eq_zero (by omega);subst this
   rfl
 | g + 1,0,b,_,hh => by
   have : b = [] := List.eq_nil_of_length_eq_zero (by omega);subst this
   rfl
 | g + 1,h + 1,b,hg,hh => by
   unfold qbT
   cases hs : qO b with
   | none => rfl
   | some r =>
     have := qaG hs
     have hl : (b.drop (r.length + 8)).length <= b.length - 8 := by rw [List.length_drop]; omega
     have h8 : 8 <= b.length := by
      have := congrArg List.length this.1;rw [List.length_append,qG] at this;omega
     dsimp only;rw [qdG g h _ (by omega) (by omega)]
theorem qck {b : List UInt8} (h : qO b = none) : qB b = ([],0) := by
 unfold qB
 cases hb : b.length with
 | zero => rfl
 | succ n => unfold qbT; rw [h]
theorem qbs {b r : List UInt8} (h : qO b = some r) : qB b = (r :: (qB (b.drop (r.length + 8))).1,r.length + 8 + (qB (b.drop (r.length + 8))).2) := by
 have := qaG h
 have h8 : 8 <= b.length := by
  have := congrArg List.length this.1;rw [List.length_append,qG] at this;omega
 obtain ⟨n,hn⟩ : ∃ n,b.length = n + 1 := ⟨b.length - 1,by omega⟩;unfold qB;rw [hn]
 conv => lhs; unfold qbT
 rw [h];dsimp only;rw [qdG n (b.drop (r.length + 8)).length _ (by rw [List.length_drop]; omega) (Nat.le_refl _)]
def fit (l : List (List UInt8)) : Prop := ∀ r ∈ l,r.length <= 60000
theorem qjS {r : List UInt8} {l : List (List UInt8)} (h : fit (r :: l)) : r.length <= 60000 /\ fit l :=
 ⟨h r List.mem_cons_self,fun x hx => h x (List.mem_cons_of_mem _ hx)⟩
theorem qcM (b : List UInt8) : (qB b).2 <= b.length := by
 suffices ∀ n (b : List UInt8),b.length <= n -> (qB b).2 <= b.length from this b.length b (Nat.le_refl _)
 intro n
 induction n with
 | zero =>
   intro b hb;have : b = [] := List.eq_nil_of_length_eq_zero (by omega);subst this;exact Nat.le_refl _
 | succ n ih =>
   intro b hb
   cases hs : qO b with
   | none => rw [qck hs]; exact Nat.zero_le _
   | some r =>
     obtain ⟨e,_⟩ := qaG hs;have hlen := congrArg List.length e;rw [List.length_append,qG] at hlen;have := ih (b.drop (r.length + 8)) (by rw [List.length_drop]; omega);rw [qbs hs];rw [List.length_drop] at this;dsimp only;omega
theorem qfm (b : List UInt8) : b.take (qB b).2 = framesL (qB b).1 /\ fit (qB b).1 := by
 suffices ∀ n (b : List UInt8),b.length <= n -> b.take (qB b).2 = framesL (qB b).1 /\ fit (qB b).1 from this b.length b (Nat.le_refl _)
 intro n
 induction n with
 | zero =>
   intro b hb;have : b = [] := List.eq_nil_of_length_eq_zero (by omega);subst this;exact ⟨rfl,fun r hr => by cases hr⟩
 | succ n ih =>
   intro b hb
   cases hs : qO b with
   | none => rw [qck hs]; exact ⟨rfl,fun r hr => by cases hr⟩
   | some r =>
     obtain ⟨e,hr⟩ := qaG hs;have hlen := congrArg List.length e;rw [List.length_append,qG] at hlen;obtain ⟨h1,h2⟩ := ih (b.drop (r.length + 8)) (by rw [List.length_drop]; omega);rw [qbs hs];refine ⟨?_,fun x hx => ?_⟩
     · dsimp only
       have e2 : ∀ m,b.take (r.length + 8 + m) = qae r ++ (b.drop (r.length + 8)).take m := fun m => by
        conv => lhs; rw [e]
        rw [List.take_append,qG,List.take_of_length_le (by rw [qG]; omega),Nat.add_sub_cancel_left]
       rw [qbF,<- h1,e2]
     · rcases List.mem_cons.1 hx with rfl | hx
       · exact hr
       · exact h2 x hx
end Go.Proofs.YtogbhedbgcmckaaGreat
