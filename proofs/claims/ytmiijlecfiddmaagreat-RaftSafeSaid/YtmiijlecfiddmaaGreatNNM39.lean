/- What entries come to: the law's digest. -/
import Derived.Test.YtmiijlecfiddmaaGreatNNM01
import Derived.Test.YtmiijlecfiddmaaGreatNNM08
import Derived.Test.YtmiijlecfiddmaaGreatNNM37
import Derived.Test.YtmiijlecfiddmaaGreatNNM38
set_option linter.unusedVariables false
set_option linter.unusedSimpArgs false
set_option maxRecDepth 100000
set_option maxHeartbeats 3200000
namespace Go.Proofs.YtmiijlecfiddmaaGreat
open Go.RowKit
def dig1 (s : Nat) (d : List UInt8) : Nat := d.foldl (fun s b => (s * 31 + b.toNat) % 4294967296) s
def dig0 (s : Nat) (e : Ent) : Nat := (s * 31 + (e.t % 4294967296).toNat) % 4294967296
def digs (s : Nat) (l : List Ent) : Nat := l.foldl (fun s e => dig1 (dig0 s e) e.d) s
theorem qip (l : List Ent) : Sim.digest l = [UInt8.ofNat (digs (l.length % 4294967296) l),UInt8.ofNat (digs (l.length % 4294967296) l / 256),UInt8.ofNat (digs (l.length % 4294967296) l / 65536),UInt8.ofNat (digs (l.length % 4294967296) l / 16777216)] := rfl
theorem qiq (s : Nat) (d : List UInt8) (j : Nat) (hj : j < d.length) : dig1 s (d.take (j + 1)) = (dig1 s (d.take j) * 31 + d[j].toNat) % 4294967296 := by
 rw [List.take_succ_eq_append_getElem hj];unfold dig1;rw [List.foldl_append]
 rfl
theorem qir (s : Nat) (l : List Ent) (j : Nat) (hj : j < l.length) : digs s (l.take (j + 1)) = dig1 (dig0 (digs s (l.take j)) l[j]) l[j].d := by
 rw [List.take_succ_eq_append_getElem hj];unfold digs;rw [List.foldl_append]
 rfl
theorem qgx (s : Nat) (e : Ent) : dig0 s e < 4294967296 := Nat.mod_lt _ (by decide)
theorem qgy {s : Nat} (h : s < 4294967296) (d : List UInt8) : dig1 s d < 4294967296 := by
 unfold dig1
 induction d generalizing s with
 | nil => exact h
 | cons b d ih =>
   rw [List.foldl_cons];exact ih (Nat.mod_lt _ (by decide))
theorem qgz {s : Nat} (h : s < 4294967296) (l : List Ent) : digs s l < 4294967296 := by
 unfold digs
 induction l generalizing s with
 | nil => exact h
 | cons b d ih =>
   rw [List.foldl_cons];exact ih (qgy (qgx _ _) _)
theorem qjP (x : Int) : IntKind.u32.wrap x = x % 4294967296 := by
 simp [IntKind.wrap,IntKind.bits,IntKind.signed]
theorem qbU {w : World} {Z : Nat -> Prop} {A : Option Addr} {c : Nat} (ls : List Ent) (h : Ents w Z A ls.length c ls) (hl : ls.length <= 1000000) (hd : ∀ e ∈ ls,e.d.length <= 1000000) :
 Calls Tryz.prog 49 #[.slice A ls.length c] w fun e w' => ∃ g cB,e = .returned (.slice (some ⟨g,0,none⟩) 4 cB) /\ Lies w' (some ⟨g,0,none⟩) 4 cB (Sim.digest ls) /\ w.heap.size <= g /\ Below w.heap.size w w' := by
 rw [qip];obtain ⟨s0,hs0⟩ := exq (ls.length % 4294967296)
 have hs0l : s0 < 4294967296 := by omega
 have e0 : IntKind.u32.wrap (ls.length : Int) = (s0 : Int) := by rw [qjP]; omega
 rw [hs0];obtain ⟨n,hn⟩ := exq (ls.length);rw [hn] at h hl e0 ⊢;have HL := hdq3 h hd hn;clear h hd hn hs0
 go_enter Tryz.func49,Tryz.ntmps49
 go_wp2_with fail
 go_loopw [3,11] (fun v3 v11 wr => ∃ k : Nat,k <= n /\ v11 = .int .i64 (k : Int) /\ v3 = .int .u32 ((digs s0 (ls.take k) : Nat) : Int) /\ wr = w) (fun _ v11 _ => n - (intOf v11).toNat)
 case atStart => exact ⟨0,Nat.zero_le _,rfl,rfl,rfl⟩
 case round =>
  obtain ⟨k,hk,rfl,rfl,rfl⟩ := hrel
  by_cases hk2 : k < n
  · have l1 : decide ((k : Int) < (n : Int)) = true := decide_eq_true (by omega);obtain ⟨g,off,E,cE,rfl,hg,_,hct,hcd,hlE⟩ := HL.out.1.at_ k hk2
    have hkl : k < ls.length := by rw [HL.out.2.2]; exact hk2
    obtain ⟨e,he⟩ := exq (ls[k]);rw [he] at hct hcd hlE;have hdl := HL.out.2.1 e (by rw [<- he]; exact List.getElem_mem hkl);have hst := qir s0 ls k hkl;rw [he] at hst;have hsl := qgz hs0l (ls.take k);obtain ⟨s,hs⟩ := exq (digs s0 (ls.take k));rw [hs] at hst hsl ⊢;obtain ⟨s1,hs1⟩ := exq (dig0 s e)
    have hs1l : s1 < 4294967296 := by rw [<- hs1]; exact qgx _ _
    have e1 : ((s : Int) * 31 % 4294967296 + e.t % 4294967296) % 4294967296 = (s1 : Int) := by
     rw [<- hs1];unfold dig0;omega
    rw [hs1] at hst;have HE := hdq2 hst hlE;clear hst hlE he hs hs1
    go_wp2_with fail
    obtain ⟨dn,hdn⟩ := exq (e.d.length);rw [hdn] at hcd hdl ⊢;have HD := Lib.hid hdn;clear hdn
    go_loopw [3,29] (fun v3 v29 wx => ∃ j : Nat,j <= dn /\ v29 = .int .i64 (j : Int) /\ v3 = .int .u32 ((dig1 s1 (e.d.take j) : Nat) : Int) /\ wx = wr) (fun _ v29 _ => dn - (intOf v29).toNat)
    case atStart => exact ⟨0,Nat.zero_le _,rfl,by rw [e1]; rfl,by first | rfl | trivial⟩
    case round =>
     obtain ⟨j,hj,rfl,rfl,hw⟩ := hrel;have hw2 := hw.symm;subst hw2
     by_cases hj2 : j < dn
     · have l2 : decide ((j : Int) < (dn : Int)) = true := decide_eq_true (by omega);obtain ⟨_,_,_,hbt⟩ := HE.out.2;obtain ⟨gb,ob,eb,hgb,hcb⟩ := hbt (by rw [HD.out]; omega);have hcj := hcb j (by rw [HD.out]; exact hj2);have hst1 := qiq s1 e.d j (by rw [HD.out]; exact hj2);obtain ⟨b,hb⟩ := exq (e.d[j]'(by rw [HD.out]; exact hj2));rw [hb] at hcj hst1;have hbl := b.toNat_lt;unfold u8 at hcj;generalize b.toNat = bn at *;have hz := qgy hs1l (e.d.take j);obtain ⟨z,hz2⟩ := exq (dig1 s1 (e.d.take j));rw [hz2] at hst1 hz ⊢;obtain ⟨z1,hz1⟩ := exq (dig1 s1 (e.d.take (j + 1)));rw [hz1] at hst1
       have e3 : ((z : Int) * 31 % 4294967296 + (bn : Int)) % 4294967296 = (z1 : Int) := by rw [hst1]; omega
       have HZ := Lib.hid hz1;clear hst1 hz1 hz2 hb hcb;subst eb
       go_wp2_with fail
       go_roundw
       case rel => exact ⟨j + 1,hj2,by go_num,by rw [HZ.out,e3],by first | rfl | trivial⟩
       case measure =>
        simp [intOf]
        omega
     · obtain rfl : j = dn := by omega
       have hje : e.d.take j = e.d := by rw [<- HD.out]; exact List.take_length
       rw [hje];have hst := HE.out.1
       go_wp2_with fail
       go_roundw
       case rel => exact ⟨k + 1,hk2,by go_num,by rw [hst],by first | rfl | trivial⟩
       case measure =>
        simp [intOf]
        omega
  · obtain rfl : k = n := by omega
    have hkl : ls.take k = ls := by rw [<- HL.out.2.2]; exact List.take_length
    rw [hkl];have hsl := qgz hs0l ls;obtain ⟨s,hs⟩ := exq (digs s0 ls);rw [hs] at hsl ⊢;have HS := Lib.hid hs;clear hs
    go_wp2_with fail
    go_ret;refine ⟨wr.heap.size,4,rfl,⟨rfl,nlq,fun e => (by cases e),fun _ => ⟨wr.heap.size,0,rfl,by simp,fun j hj => ?_⟩⟩,nlq,blq.alloc nlq _⟩;have hr := heap_alloc_new wr (.cells #[.int .u8 ((s : Int) % 256), .int .u8 ((s : Int) / 256 % 256), .int .u8 ((s : Int) / 65536 % 256), .int .u8 ((s : Int) / 16777216)] 5);have hj4 : j < 4 := hj
    have hx : ∀ x : Nat,((UInt8.ofNat x).toNat : Int) = (x : Int) % 256 := fun x => by simp
    rcases j with _ | _ | _ | _ | j
    · rw [Nat.zero_add]; exact qb hr 0 _ (by show some _ = some (u8 _); unfold u8; simp [hx,HS.out])
    · exact qb hr 1 _ (by show some _ = some (u8 _); unfold u8; simp [hx,HS.out])
    · exact qb hr 2 _ (by show some _ = some (u8 _); unfold u8; simp [hx,HS.out])
    · exact qb hr 3 _ (by show some _ = some (u8 _); unfold u8; simp [hx,HS.out]; omega)
    · omega
end Go.Proofs.YtmiijlecfiddmaaGreat
set_option linter.unusedVariables false
set_option linter.unusedSimpArgs false
set_option maxRecDepth 100000
set_option maxHeartbeats 6400000
namespace Go.Proofs.YtmiijlecfiddmaaGreat
open Go.RowKit Go.Shelf
attribute [local go_sem] Oper.semAt_some
theorem qdE {S : Sim} {k : Nat} (h : (S.agrees k).2 = true) :
 (((S.r k).part ((S.r k).lg.i + 1) (S.r k).cm).length : Int) = (S.r k).cm - (S.r k).lg.i /\ (S.r k).lg.i <= S.all.length /\ ∃ all,Sim.join S.all ((S.r k).part ((S.r k).lg.i + 1) (S.r k).cm) = some all /\ (S.agrees k).1 = { S with all := all } /\ (S.r k).sn.i = (S.r k).lg.i /\ ((S.r k).sn.i = 0 \/ (S.r k).sn.d = Sim.digest (all.take (S.r k).sn.i.toNat)) := by
 unfold Sim.agrees at h ⊢;dsimp only at h ⊢
 by_cases h1 : (((S.r k).part ((S.r k).lg.i + 1) (S.r k).cm).length : Int) ≠ (S.r k).cm - (S.r k).lg.i \/ (S.all.length : Int) < (S.r k).lg.i
 · rw [if_pos h1] at h;cases h
 · rw [if_neg h1] at h ⊢;refine ⟨Classical.byContradiction fun e => h1 (.inl e),?_,?_⟩
   · have : ¬ (S.all.length : Int) < (S.r k).lg.i := fun e => h1 (.inr e);omega
   · cases hj : Sim.join S.all ((S.r k).part ((S.r k).lg.i + 1) (S.r k).cm) with
     | none => rw [hj] at h; cases h
     | some all =>
       rw [hj] at h;dsimp only at h;rw [Bool.and_eq_true,Bool.or_eq_true,decide_eq_true_eq,decide_eq_true_eq,decide_eq_true_eq] at h;exact ⟨all,rfl,rfl,h.1,h.2⟩
theorem join_step {a l all : List Ent} {e : Ent} (h : Sim.join a (e :: l) = some all) (h1 : 1 <= e.i) :
 (e.i <= a.length /\ ∃ (hi : (e.i - 1).toNat < a.length),oneB e.i e.t e.d a[(e.i - 1).toNat].i a[(e.i - 1).toNat].t a[(e.i - 1).toNat].d = true /\ Sim.join a l = some all) \/ ((a.length : Int) < e.i /\ Sim.join (a ++ [e]) l = some all) := by
 unfold Sim.join at h
 by_cases hc : e.i <= a.length
 · left
   rw [if_pos hc] at h
   have hi : (e.i - 1).toNat < a.length := by omega
   rw [List.getElem?_eq_getElem hi] at h;dsimp only at h
   by_cases ho : oneB e.i e.t e.d a[(e.i - 1).toNat].i a[(e.i - 1).toNat].t a[(e.i - 1).toNat].d = true
   · rw [if_pos ho] at h;exact ⟨hc,hi,ho,h⟩
   · rw [if_neg ho] at h;cases h
 · right
   rw [if_neg hc] at h;exact ⟨by omega,h⟩
namespace RegW
theorem qgh {w : World} {S : Sim} {L : SimL} {lab : Nat -> Nat} (h : qh w S L lab) (k : Nat) (hk : k < S.n) (hg : Good (S.r k).lg) (hl : (S.r k).lg.l.length <= 1000000) (hn : (S.r k).n <= 3) (hsd : (S.r k).sn.d.length <= 50000) (hcm : 0 <= (S.r k).cm /\ (S.r k).cm <= 2199023255552) (hal : S.all.length <= 400000)
 (hll : (S.r k).lg.l.length <= 400000) (hdl : ∀ e ∈ (S.agrees k).1.all,e.d.length <= 1000000) (hyes : (S.agrees k).2 = true) :
 Calls Tryz.prog 51 #[ptrV L.g, .int .i64 (k : Int)] w fun e w' => e = .returned (.bool true) /\ Went w w' (S.agrees k).1 L lab := by
 obtain ⟨y1,y2,all,y3,y4,y5,y6⟩ := qdE hyes;rw [y4] at hdl ⊢;clear hyes y4;obtain ⟨q,s,xs,K,R,hf⟩ := h.nodes k hk;obtain ⟨b,off,eA,hpc,hpl,hpn⟩ := h.ptr hk;obtain ⟨N,hN⟩ := exq (S.r k);rw [hN] at R hg hl hn hsd hcm hll y1 y2 y3 y5 y6;have hlim := hg.lim;have HY5 := Lib.hid y5
 have hsn0 : 0 <= N.sn.i /\ N.sn.i <= S.all.length := by rw [y5]; omega
 clear y5;have hS := qaE R hl hn;have c0 := qb h.row 0 _ rfl;rw [show (simC S L)[0] = .slice L.Ar S.n L.cr from rfl,eA] at c0;have H := Lib.hid (And.intro h (And.intro R (And.intro hg (And.intro hpc (And.intro hpl (And.intro eA (And.intro y3 (And.intro y6 (And.intro hdl (And.intro hN (And.intro hl (And.intro hn hsd))))))))))));clear R h hN hg y3 y6 hdl eA hl hn hsd hf hpl
 go_enter Tryz.func51,Tryz.ntmps51
 go_wp2_with fail
 refine hS.mono ?_;rintro e w1 ⟨NA,nc,MA,mc,rfl,_,_,_,_,hb1⟩;obtain ⟨W1,hW1⟩ := exq (w1.alloc (.cells #[.int .i64 N.ro, .int .i64 N.ld, .int .i64 N.wk, .int .i64 N.ht, .int .i64 N.hv, .int .i64 N.cm, .int .i64 N.lg.i, .int .i64 N.lg.lastI, .slice NA N.n nc, .slice MA N.n mc] 48))
 have hbW1 : Below w.heap.size w W1 := by rw [<- hW1]; exact hb1.alloc hb1.size _
 have hbx : W1.heap[w1.heap.size]? = some (.cells #[.int .i64 N.ro, .int .i64 N.ld, .int .i64 N.wk, .int .i64 N.ht, .int .i64 N.hv, .int .i64 N.cm, .int .i64 N.lg.i, .int .i64 N.lg.lastI, .slice NA N.n nc, .slice MA N.n mc] 48) := by rw [<- hW1]; exact heap_alloc_new w1 _
 have hws := hb1.size;have hc0 := qb (H.out.1.below hbW1).row 0 _ rfl;rw [show (simC S L)[0] = .slice L.Ar S.n L.cr from rfl,H.out.2.2.2.2.2.1] at hc0;have hpc1 := (World.cell?_of_block (a := ⟨b,off + k,none⟩) (hbW1.block b (World.block_lt_of_cell? w ⟨b,off + k,none⟩ H.out.2.2.2.1))).trans H.out.2.2.2.1;have x4 := qb hbx 5 _ rfl;have x5 := qb hbx 6 _ rfl
 have hSW : ∀ W,Below W1.heap.size W1 W -> (fun w' => w'.cell? ⟨w1.heap.size,5,none⟩ = some (.int .i64 N.cm) /\ w'.cell? ⟨w1.heap.size,6,none⟩ = some (.int .i64 N.lg.i) /\ w'.cell? ⟨L.g,0,none⟩ = some (.slice (some ⟨b,off,none⟩) S.n L.cr) /\ w'.cell? ⟨b,off + k,none⟩ = some (ptrV (L.ps k))) W := fun W hW => by
  have hc : ∀ a v,W1.cell? a = some v -> W.cell? a = some v := fun a v hv => (World.cell?_of_block (hW.block a.block (World.block_lt_of_cell? W1 a hv))).trans hv
  exact ⟨hc _ _ x4,hc _ _ x5,hc _ _ hc0,hc _ _ hpc1⟩
 have z1 : IntKind.i64.wrap (N.lg.i + 1) = N.lg.i + 1 := IntWalk.i64_in _ (by omega)
 have hEn := fun W (hW : Below w.heap.size w W) => qbx (H.out.2.1.below hW) H.out.2.2.1 H.out.2.2.2.2.2.2.2.2.2.2.1 (N.lg.i + 1) N.cm ⟨by omega,by omega⟩ ⟨by omega,by omega⟩
 obtain ⟨part,hpart⟩ := exq (N.part (N.lg.i + 1) N.cm);rw [hpart] at hEn y1;obtain ⟨n,hn⟩ := exq (part.length);rw [hn] at hEn y1
 have hnle : n <= N.lg.l.length := by rw [<- hn,<- hpart]; exact List.length_filter_le _ _
 have HW := hdq7 hSW hEn hbW1 hW1 hbx hpart hn;clear hSW hEn hbW1 hW1 hbx hpart hc0 hpc1 x4 x5 hS c0 hpc hb1 hn
 go_wp2_with fail
 rw [HW.out.2.2.2.1];refine wp_region_held_drew ⟨(fun w' => w'.cell? ⟨w1.heap.size,5,none⟩ = some (.int .i64 N.cm) /\ w'.cell? ⟨w1.heap.size,6,none⟩ = some (.int .i64 N.lg.i) /\ w'.cell? ⟨L.g,0,none⟩ = some (.slice (some ⟨b,off,none⟩) S.n L.cr) /\ w'.cell? ⟨b,off + k,none⟩ = some (ptrV (L.ps k))),[]⟩ (by kernel_rfl) (HW.out.1 _ blq.drew) (fun hHeld => ?_);refine lsq 14 ?_;refine tkq 0 ?_;refine tkq 1 ?_;refine tkq 2 ?_;refine tkq 3 ?_;refine tkq 4 ?_;refine tkq 5 ?_;refine tkq 6 ?_;refine tkq 7 ?_;refine tkq 8 ?_;refine tkq 9 ?_;refine tkq 10 ?_;refine tkq 11 ?_;refine rdq1 12 fun KK hK => ?_;go_simp;refine (HW.out.2.1 _ (HW.out.2.2.1.trans ((show Below W1.heap.size W1 _ from blq.drew).mono HW.out.2.2.1.size))).mono ?_;rintro e w4 ⟨A4,c4,rfl,hE4,hb4⟩;have hb14 : Below W1.heap.size W1 w4 := blq.drew.trans (hb4.mono (by simp));refine hK.out _ _ (HW.out.1 w4 hb14) ?_;clear hK KK hHeld;intro hHeld
 try simp only [lpq]
 refine puq 13 ?_;refine dnq ?_;obtain ⟨w2,hw2⟩ := exq (w4);rw [hw2] at hE4 hb14 ⊢;have hb2 : Below w.heap.size w w2 := HW.out.2.2.1.trans (hb14.mono HW.out.2.2.1.size);have hbx2 := (hb14.block _ (hlt HW.out.2.2.2.2.1)).trans HW.out.2.2.2.2.1;have H2 := H.out.1.below hb2;have hE2 : Ents w2 (fun b => lab b = 0) A4 n c4 part := hE4.mono fun b hb => H.out.1.lim b (by have h1 : W1.heap.size <= b := hb; have := HW.out.2.2.1.size; omega);have x4 := qb hbx2 5 _ rfl;have x5 := qb hbx2 6 _ rfl;have c7 := qb H2.row 7 _ rfl;rw [show (simC S L)[7] = .slice L.Aa S.all.length L.ca from rfl] at c7;have z2 : IntKind.i64.wrap (N.cm - N.lg.i) = N.cm - N.lg.i := IntWalk.i64_in _ (by omega)
 have z3 : ((n : Int) != N.cm - N.lg.i) = false := by rw [y1]; exact bne_self_eq_false _
 have z4 : decide ((S.all.length : Int) < N.lg.i) = false := decide_eq_false (by omega);have hlbx : lab w1.heap.size = 0 := H.out.1.lim _ hws;have HH := hdq4 H2 hb2 hbx2 hE2;clear H2 hb2 hbx2 hE2 hE4 hb14 hw2
 go_wp2_with fail
 go_quiet (fail)
 clear x4 x5 c7
 go_wp2_with fail
 have hp1 : ∀ e ∈ part,1 <= e.i /\ e.i <= 1099511627776 := fun e he => by
  rw [<- HW.out.2.2.2.2.2.1] at he;have h1 := qR H.out.2.2.1.run e ((List.mem_filter.1 he).1);have := (qy _ _ _).1 h1;omega
 have HP := Lib.hid hp1;clear hp1
 go_loopw [50] (fun v50 wx => ∃ (j : Nat) (a : List Ent) (L' : SimL) (lab' : Nat -> Nat),j <= n /\ v50 = .int .i64 (j : Int) /\ qh wx { S with all := a } L' lab' /\ L'.g = L.g /\ Turn (fun i => i ≠ 0) w2 wx lab lab' /\ Sim.join a (part.drop j) = some all /\ a.length <= S.all.length + j /\ S.all.length <= a.length) (fun v50 _ => n - (intOf v50).toNat)
 case atStart => exact ⟨0,S.all,L,lab,Nat.zero_le _,rfl,(HH.out.1.below (below_drewN blq _) : qh _ S L lab),rfl,Turn.below (below_drewN blq _) HH.out.1.lim,by have h1 := H.out.2.2.2.2.2.2.1; rw [HW.out.2.2.2.2.2.1] at h1; exact h1,by omega,nlq⟩
 case round =>
  obtain ⟨j,a,L',lab',hj,rfl,hA,hLg,hT,hjn,hal2,hal3⟩ := hrel
  by_cases hj2 : j < n
  · have l1 : decide ((j : Int) < (n : Int)) = true := decide_eq_true (by omega)
    have hjl : j < part.length := by rw [HW.out.2.2.2.2.2.2]; exact hj2
    have hEr := HH.out.2.2.2.moved hT (by decide);obtain ⟨gl,ol,E,cE,eL,hgl,k0,k1,k2,hLay⟩ := hEr.lay_at j hjl;obtain ⟨e,he⟩ := exq (part[j]);have hei := HP.out e (by rw [<- he]; exact List.getElem_mem hjl)
    have hdr : part.drop j = e :: part.drop (j + 1) := by rw [<- he]; exact List.drop_eq_getElem_cons hjl
    rw [hdr] at hjn;have hst := join_step hjn hei.1;rw [he] at k0 k1 k2 hLay;have c7 := qb hA.row 7 _ rfl;rw [show (simC { S with all := a } L')[7] = .slice L'.Aa a.length L'.ca from rfl,hLg] at c7;have hncap := hEr.2.1;obtain ⟨W,hWr⟩ := exq (wr);rw [hWr] at k0 k1 k2 hLay c7 hA hT hgl ⊢;have HA := hdq5 hA hT hLg hLay hgl;clear hEr hA hT hLg hLay hdr hjn he hgl hWr
    by_cases hcs : e.i <= (a.length : Int)
    · have l2 : decide (e.i <= (a.length : Int)) = true := decide_eq_true hcs
      obtain ⟨hix,ho,hjn⟩ : ∃ (hi : (e.i - 1).toNat < a.length),oneB e.i e.t e.d a[(e.i - 1).toNat].i a[(e.i - 1).toNat].t a[(e.i - 1).toNat].d = true /\ Sim.join a (part.drop (j + 1)) = some all := by
       rcases hst with h9 | h9
       · exact h9.2
       · exact absurd h9.1 (by omega)
      obtain ⟨x,hx⟩ := exq ((e.i - 1).toNat)
      have hxa : x < a.length := by rw [<- hx]; exact hix
      have hgx : ∀ (h9 : (e.i - 1).toNat < a.length),a[(e.i - 1).toNat] = a[x] := fun h9 => by congr 1
      rw [hgx] at ho;obtain ⟨A2,c2,r0,r1,r2,hmem⟩ := qfQ HA.out.1.am hxa;obtain ⟨ga,oa,ea,_,hca,_⟩ := HA.out.1.a.sp.at_ (by omega) x hxa;have m0 := hca 0 (by omega) _ r0;have m1 := hca 1 (by omega) _ r1;have m2 := hca 2 (by omega) _ r2;rw [Nat.add_zero] at m0;have hay := HA.out.1.ad _ hmem;obtain ⟨f,hf⟩ := exq (a[x]);have hacap := HA.out.1.a.sp.2.1;dsimp only at ea hacap hay m0 m1 m2 hf ho;rw [hf] at m0 m1 m2 hay ho;rw [ea] at c7;subst eL
      have z5 : IntKind.i64.wrap (e.i - 1) = (x : Int) := by rw [<- hx,IntWalk.i64_in _ (by omega)]; omega
      have hOne := fun W2 (hW2 : Below W.heap.size W W2) => qjh e.i e.t E e.d.length cE e.d f.i f.t A2 f.d.length c2 f.d W2 (HA.out.2.2.2.1.2.1.below hW2 nlq) (hay.2.1.below hW2 nlq)
      rw [ho] at hOne
      have hS9 : ∀ W2,Below W.heap.size W W2 -> (fun w' => w'.cell? ⟨gl,ol + j * 3,none⟩ = some (.int .i64 e.i) /\ w'.cell? ⟨gl,ol + j * 3 + 1,none⟩ = some (.int .i64 e.t) /\ w'.cell? ⟨gl,ol + j * 3 + 2,none⟩ = some (.slice E e.d.length cE) /\ w'.cell? ⟨L.g,7,none⟩ = some (.slice (some ⟨ga,oa,none⟩) a.length L'.ca) /\ w'.cell? ⟨ga,oa + x * 3,none⟩ = some (.int .i64 f.i) /\ w'.cell? ⟨ga,oa + x * 3 + 1,none⟩ = some (.int .i64 f.t) /\ w'.cell? ⟨ga,oa + x * 3 + 2,none⟩ = some (.slice A2 f.d.length c2)) W2 := fun W2 hW2 => by
       have hc : ∀ a v,W.cell? a = some v -> W2.cell? a = some v := fun a v hv => (World.cell?_of_block (hW2.block a.block (World.block_lt_of_cell? W a hv))).trans hv
       exact ⟨hc _ _ k0,hc _ _ k1,hc _ _ k2,hc _ _ c7,hc _ _ m0,hc _ _ m1,hc _ _ m2⟩
      have H9 := hdq3 hOne hS9 hjn;have c7w := c7;clear hst hix ho hx hgx r0 r1 r2 hmem hca m1 m2 hay hf ea hOne hS9 hjn hcs
      go_wp2_with fail
      go_quiet (fail)
      go_wp2_with fail
      refine wp_region_held_drew ⟨(fun w' => w'.cell? ⟨gl,ol + j * 3,none⟩ = some (.int .i64 e.i) /\ w'.cell? ⟨gl,ol + j * 3 + 1,none⟩ = some (.int .i64 e.t) /\ w'.cell? ⟨gl,ol + j * 3 + 2,none⟩ = some (.slice E e.d.length cE) /\ w'.cell? ⟨L.g,7,none⟩ = some (.slice (some ⟨ga,oa,none⟩) a.length L'.ca) /\ w'.cell? ⟨ga,oa + x * 3,none⟩ = some (.int .i64 f.i) /\ w'.cell? ⟨ga,oa + x * 3 + 1,none⟩ = some (.int .i64 f.t) /\ w'.cell? ⟨ga,oa + x * 3 + 2,none⟩ = some (.slice A2 f.d.length c2)),[]⟩ (by kernel_rfl) (H9.out.2.1 _ (by exact (below_drewN blq _).drew)) (fun hHeld => ?_);refine lsq 18 ?_;refine tkq 0 ?_;refine tkq 1 ?_;refine tkq 2 ?_;refine tkq 3 ?_;refine tkq 4 ?_;refine tkq 5 ?_;refine tkq 6 ?_;refine tkq 7 ?_;refine tkq 8 ?_;refine tkq 9 ?_;refine tkq 10 ?_;refine tkq 11 ?_;refine tkq 12 ?_;refine tkq 13 ?_;refine tkq 14 ?_;refine tkq 15 ?_;refine rdq1 16 fun KK hK => ?_;go_simp;refine (H9.out.1 _ (by exact (below_drewN blq _).drew)).mono ?_;rintro e9 w9 ⟨rfl,hb9⟩;have HB9 : Below W.heap.size W w9 := (show Below W.heap.size W _ from (below_drewN blq _).drew).trans (hb9.mono (by simp));refine hK.out _ _ (H9.out.2.1 w9 HB9) ?_;clear hK KK hHeld;intro hHeld
      try simp only [lpq]
      refine puq 17 ?_;refine dnq ?_;go_wp2
      go_roundw
      case rel => exact ⟨j + 1,a,L',lab',hj2,by go_num,HA.out.1.below HB9,HA.out.2.2.1,HA.out.2.1.trans (Turn.below HB9 HA.out.1.lim) (by decide),H9.out.2.2,by omega,hal3⟩
      case measure =>
       simp [intOf]
       omega
    · have l2 : decide (e.i <= (a.length : Int)) = false := decide_eq_false hcs
      have hjn : Sim.join (a ++ [e]) (part.drop (j + 1)) = some all := by
       rcases hst with h9 | h9
       · exact absurd h9.1 hcs
       · exact h9.2
      subst eL;have HJ := Lib.hid hjn;clear hst hcs hjn;have hS11 : ∀ W2 : World,W2.heap[L.g]? = W.heap[L.g]? -> W2.heap[gl]? = W.heap[gl]? -> (fun w' : World => w'.cell? ⟨gl,ol + j * 3,none⟩ = some (.int .i64 e.i) /\ w'.cell? ⟨gl,ol + j * 3 + 1,none⟩ = some (.int .i64 e.t) /\ w'.cell? ⟨gl,ol + j * 3 + 2,none⟩ = some (.slice E e.d.length cE) /\ w'.cell? ⟨L.g,7,none⟩ = some (.slice L'.Aa a.length L'.ca)) W2 := fun W2 h1 h2 => ⟨(World.cell?_of_block h2).trans k0,(World.cell?_of_block h2).trans k1,(World.cell?_of_block h2).trans k2,(World.cell?_of_block h1).trans c7⟩;have hrg := hlt HA.out.1.row;rw [HA.out.2.2.1] at hrg
      have hrowW : W.heap[L.g]? = some (.cells (simC { S with all := a } L') 73) := by
       have h9 := HA.out.1.row;rw [HA.out.2.2.1] at h9;exact h9
      have HRW := Lib.hid hrowW;clear hrowW;have hS11b : ∀ W2,Below W.heap.size W W2 -> (fun w' : World => w'.cell? ⟨gl,ol + j * 3,none⟩ = some (.int .i64 e.i) /\ w'.cell? ⟨gl,ol + j * 3 + 1,none⟩ = some (.int .i64 e.t) /\ w'.cell? ⟨gl,ol + j * 3 + 2,none⟩ = some (.slice E e.d.length cE) /\ w'.cell? ⟨L.g,7,none⟩ = some (.slice L'.Aa a.length L'.ca)) W2 := fun W2 hW2 => hS11 W2 (hW2.block _ hrg) (hW2.block _ HA.out.2.2.2.2.1);have hgl0 := HA.out.2.2.2.2.2
      have hngl : ¬ blk L'.Aa gl := fun e9 => by have := HA.out.1.a.lb _ e9; omega
      have hngg : ¬ blk L'.Aa L.g := fun e9 => by have h1 := HA.out.1.a.lb _ e9; have h2 := HA.out.1.me; rw [HA.out.2.2.1] at h2; omega
      have hS10 : ∀ X,Below W.heap.size W X -> Sp 78 3 X L'.Aa a.length L'.ca (rowOf L'.ys) := fun X hX => HA.out.1.a.sp.keep fun b hb => hX.block b (HA.out.1.a.sp.lt hb)
      have h1c : ∀ u ∈ [Value.int .i64 e.i, .int .i64 e.t, .slice E e.d.length cE],u.oneCell' = true := fun u hu => by
       simp only [List.mem_cons,List.not_mem_nil,or_false] at hu
       rcases hu with rfl | rfl | rfl <;> rfl
      have H11 := hdq4 hS11 hS11b hS10 hrg;have hgl1 := HA.out.2.2.2.2.1;clear hS11 hS11b hS10 hgl0
      go_wp2_with fail
      go_quiet (fail)
      go_wp2_with fail
      refine wp_region_held_drew ⟨(fun w' : World => w'.cell? ⟨gl,ol + j * 3,none⟩ = some (.int .i64 e.i) /\ w'.cell? ⟨gl,ol + j * 3 + 1,none⟩ = some (.int .i64 e.t) /\ w'.cell? ⟨gl,ol + j * 3 + 2,none⟩ = some (.slice E e.d.length cE) /\ w'.cell? ⟨L.g,7,none⟩ = some (.slice L'.Aa a.length L'.ca)),[13]⟩ (by kernel_rfl) (H11.out.2.1 _ (by exact (below_drewN blq _).drew)) (fun hHeld => ?_);refine lsq 14 ?_;refine puq 0 ?_;refine puq 1 ?_;refine puq 2 ?_;refine puq 3 ?_;refine tkq 4 ?_;refine puq 5 ?_;refine puq 6 ?_;refine puq 7 ?_;refine tkq 8 ?_;refine rdq1 9 fun KK hK => ?_;go_simp;refine hK.out _ _ (H11.out.2.1 _ bbq) ?_;clear hK KK hHeld;intro hHeld
      try simp only [lpq]
      refine rdq1 10 fun KK hK => ?_;refine ql qa0 _ (by rfl) _ _ (by rfl) L'.Aa a.length L'.ca (rowOf L'.ys) (by rfl) (H11.out.2.2.1 _ bbq) _ 1 1 [.int .i64 e.i, .int .i64 e.t, .slice E e.d.length cE] (by rfl) (fun e => by cases e) (by rfl) h1c (fun b e9 => by cases e9; exact cells_lit (C := [.int .i64 e.i, .int .i64 e.t, .slice E e.d.length cE]) (heap_alloc_new _ _)) (by omega) ?_;intro A5 n5 w5 hsp5 hA5 hg5;have hX5 := qN (w := W) hg5 bbq;have hr5 := (hg5.block L.g (by have := hX5.size; have := H11.out.2.2.2; omega) hngg).trans (hX5.block _ H11.out.2.2.2);have hx5 := (hg5.block gl (by have := hX5.size; omega) hngl).trans (hX5.block _ hgl1);refine hK.out _ _ (H11.out.1 w5 hr5 hx5) ?_;clear hK KK hHeld;intro hHeld
      try simp only [lpq]
      refine puq 11 ?_;refine puq 12 ?_;have e7 := hHeld.2.2.2;have hrow5 := hr5.trans HRW.out;have f7 := qg hrow5 7;refine ltq 13 fun KK hK => ?_;go_simp;refine hK.out _ _ ?_;clear hK KK
      try simp only [lpq]
      clear e7 f7;refine dnq ?_;go_wp2
      go_roundw
      case rel =>
       obtain ⟨lab2,q1,q2⟩ := HA.out.1.alled ⟨e,E,cE⟩ HA.out.2.2.2.1 hX5 hsp5 hA5 hg5;rw [HA.out.2.2.1] at q1 q2;refine ⟨j + 1,a ++ [e],{ L' with g := L.g,Aa := A5,ca := n5,ys := L'.ys ++ [⟨e,E,cE⟩] },lab2,hj2,by go_num,q1,rfl,HA.out.2.1.trans (q2.wide fun i e9 => by omega) (by decide),HJ.out,by rw [List.length_append,List.length_singleton]; omega,by rw [List.length_append]; omega⟩
      case measure =>
       simp [intOf]
       omega
  · obtain rfl : j = n := by omega
    have hend : a = all := by
     rw [List.drop_of_length_le (by rw [HW.out.2.2.2.2.2.2]; exact nlq)] at hjn;have h1 : some a = some all := hjn;injection h1
    subst hend;obtain ⟨q2,s2,xs2,K2,R2,_⟩ := hA.nodes k hk;obtain ⟨b2,off2,eA2,hpc2,_,hpn2⟩ := hA.ptr hk;have hN2 : ({ S with all := a } : Sim).r k = N := H.out.2.2.2.2.2.2.2.2.2.1;rw [hN2] at R2;have hSn := qej R2 H.out.2.2.2.2.2.2.2.2.2.2.2.2;rw [HY5.out] at hSn;have c0 := qb hA.row 0 _ rfl;rw [show (simC { S with all := a } L')[0] = .slice L'.Ar S.n L'.cr from rfl,eA2,hLg] at c0;have hbx := (hT.same _ (hlt HH.out.2.2.1) (by rw [hlbx]; decide)).trans HH.out.2.2.1;dsimp only at hpn2 eA2 hpc2;have HA := hdq5 hA hT hLg hbx eA2;clear hA hT hLg hbx R2 hN2 eA2 hjn
    go_wp2_with fail
    refine hSn.mono ?_;rintro e w5 ⟨E5,c5,rfl,hl5,_,hb5⟩;obtain ⟨W6,hW6⟩ := exq (w5.alloc (.cells #[.int .i64 N.lg.i, .int .i64 N.sn.t, .slice E5 N.sn.d.length c5] 25))
    have hb6 : Below wr.heap.size wr W6 := by rw [<- hW6]; exact hb5.alloc hb5.size _
    have hbs : W6.heap[w5.heap.size]? = some (.cells #[.int .i64 N.lg.i, .int .i64 N.sn.t, .slice E5 N.sn.d.length c5] 25) := by rw [<- hW6]; exact heap_alloc_new w5 _
    have hl6 : Lies W6 E5 N.sn.d.length c5 N.sn.d := by rw [<- hW6]; exact hl5.below (blq.alloc nlq _) nlq
    have hbx6 := (hb6.block _ (hlt HA.out.2.2.2.1)).trans HA.out.2.2.2.1;have y0 := qb hbs 0 _ rfl;have y2b := qb hbs 2 _ rfl;have x6 := qb hbx6 6 _ rfl;have c7 := qb (HA.out.1.below hb6).row 7 _ rfl;rw [show (simC { S with all := a } L')[7] = .slice L'.Aa a.length L'.ca from rfl,HA.out.2.2.1] at c7
    have hwent : ∀ W7,Below W6.heap.size W6 W7 -> Went w W7 { S with all := a } L lab := fun W7 h7 => Went.after H.out.1 HH.out.2.1 ⟨L',lab',HA.out.1.below (hb6.trans (h7.mono hb6.size)),HA.out.2.2.1,HA.out.2.1.trans (Turn.below (hb6.trans (h7.mono hb6.size)) HA.out.1.lim) (by decide)⟩
    have hc : ∀ W7,Below W6.heap.size W6 W7 -> ∀ a v,W6.cell? a = some v -> W7.cell? a = some v := fun W7 hW7 a v hv => (World.cell?_of_block (hW7.block a.block (World.block_lt_of_cell? W6 a hv))).trans hv
    have HF := hdq9 hwent hc hW6 hl6 y0 x6 y2b c7 hb6;clear hW6 hwent hc hl6 hbx6 hbs hb6 hl5 hb5 hSn y0 x6 y2b c7 c0 hpc2
    by_cases hz : N.lg.i = 0
    · rw [hz] at HF ⊢;have HZ := Lib.hid hz;clear hz
      go_wp2_with fail
      rw [HF.out.2.2.1];refine wp_region_held_drew ⟨(fun w' : World => w'.cell? ⟨w5.heap.size,0,none⟩ = some (.int .i64 0) /\ w'.cell? ⟨w1.heap.size,6,none⟩ = some (.int .i64 0)),[]⟩ (by kernel_rfl) ⟨HF.out.2.1 _ blq.drew _ _ HF.out.2.2.2.2.1,HF.out.2.1 _ blq.drew _ _ HF.out.2.2.2.2.2.1⟩ (fun hHeld => ?_);refine lsq 26 ?_;refine tkq 0 ?_;refine tkq 1 ?_;refine tkq 2 ?_;refine tkq 3 ?_;refine tkq 4 ?_;refine tkq 5 ?_;refine tkq 6 ?_;refine tkq 7 ?_;refine tkq 8 ?_;refine tkq 9 ?_;refine tuq 10 ?_;refine tuq 11 ?_;refine tuq 12 ?_;refine tuq 13 ?_;refine tuq 14 ?_;refine tuq 15 ?_;refine tuq 16 ?_;refine tuq 17 ?_;refine tuq 18 ?_;refine tuq 19 ?_;refine tuq 20 ?_;refine tuq 21 ?_;refine tuq 22 ?_;refine puq 23 ?_;refine puq 24 ?_;refine puq 25 ?_;refine dnq ?_;go_wp2;go_ret;exact ⟨rfl,HF.out.1 _ blq.drew⟩
    · have hdg : N.sn.d = Sim.digest (a.take N.lg.i.toNat) := by
       rcases H.out.2.2.2.2.2.2.2.1 with h9 | h9
       · rw [HY5.out] at h9;exact absurd h9 hz
       · rw [HY5.out] at h9;exact h9
      obtain ⟨i,hi⟩ : ∃ i : Nat,N.lg.i.toNat = i := ⟨_,rfl⟩
      have hi2 : N.lg.i = (i : Int) := by omega
      have hia : i <= a.length := by omega
      rw [hi] at hdg;obtain ⟨A3,c3⟩ : ∃ d,d = Sim.digest (a.take i) := ⟨_,rfl⟩
      have hdP := fun W7 (h7 : Below W6.heap.size W6 W7) => qbU (w := W7) (a.take i) ((HA.out.1.front (S := { S with all := a }) hia).below (HF.out.2.2.2.2.2.2.2.2.trans (h7.mono HF.out.2.2.2.2.2.2.2.2.size)) nlq) (by rw [List.length_take]; omega) (fun e he => H.out.2.2.2.2.2.2.2.2.1 e (List.mem_of_mem_take he))
      have hlt2 : (a.take i).length = i := by rw [List.length_take]; omega
      rw [hlt2] at hdP
      have hcv := fun W7 (h7 : Below W6.heap.size W6 W7) => (HF.out.2.2.2.1.below h7 nlq).text Tryz.underlying23 Tryz.underlying5 Tryz.underlying9
      have hnc := HA.out.1.a.sp.2.1;dsimp only at hnc
      have hsl := fun W7 => qb6 (A := L'.Aa) (n := a.length) (cap := L'.ca) qa0 (k := i) (by omega) W7
      have t2 : ((i : Int) == 0) = false := beq_eq_false_iff_ne.2 (by omega);rw [hi2] at HF ⊢;rw [<- hdg] at hdP;have HD := hdq3 hdP hcv hi2;clear hdP hcv hi hdg hz hlt2 A3 c3
      go_wp2_with fail
      rw [HF.out.2.2.1];refine wp_region_held_drew ⟨(fun w' : World => w'.cell? ⟨w5.heap.size,0,none⟩ = some (.int .i64 (i : Int)) /\ w'.cell? ⟨w1.heap.size,6,none⟩ = some (.int .i64 (i : Int)) /\ w'.cell? ⟨w5.heap.size,2,none⟩ = some (.slice E5 N.sn.d.length c5) /\ w'.cell? ⟨L.g,7,none⟩ = some (.slice L'.Aa a.length L'.ca) /\ (convert 23 9 (.slice E5 N.sn.d.length c5)).run Tryz.prog w' = .ok (.string ⟨N.sn.d.toArray⟩) w'),[]⟩ (by kernel_rfl) ⟨HF.out.2.1 _ blq.drew _ _ HF.out.2.2.2.2.1,HF.out.2.1 _ blq.drew _ _ HF.out.2.2.2.2.2.1,HF.out.2.1 _ blq.drew _ _ HF.out.2.2.2.2.2.2.1,HF.out.2.1 _ blq.drew _ _ HF.out.2.2.2.2.2.2.2.1,HD.out.2.1 _ blq.drew⟩ (fun hHeld => ?_);refine lsq 26 ?_;refine tkq 0 ?_;refine tkq 1 ?_;refine tkq 2 ?_;refine tkq 3 ?_;refine tkq 4 ?_;refine tkq 5 ?_;refine tkq 6 ?_;refine tkq 7 ?_;refine tkq 8 ?_;refine tkq 9 ?_;refine tkq 10 ?_;refine tkq 11 ?_;refine tkq 12 ?_;refine tkq 13 ?_;refine tkq 14 ?_;refine tkq 15 ?_;refine tkq 16 ?_;refine tkq 17 ?_;refine tkq 18 ?_;refine tkq 19 ?_;refine rdq1 20 fun KK hK => ?_;go_simp;refine (HD.out.1 _ (by exact blq.drew)).mono ?_;rintro e6 w6 ⟨g6,c6,rfl,hl6,_,hb6⟩;have hbb : Below W6.heap.size W6 w6 := (show Below W6.heap.size W6 _ from blq.drew).trans (hb6.mono (by simp));have hcd := hl6.text Tryz.underlying23 Tryz.underlying5 Tryz.underlying9;refine hK.out _ _ (⟨HF.out.2.1 _ hbb _ _ HF.out.2.2.2.2.1,HF.out.2.1 _ hbb _ _ HF.out.2.2.2.2.2.1,HF.out.2.1 _ hbb _ _ HF.out.2.2.2.2.2.2.1,HF.out.2.1 _ hbb _ _ HF.out.2.2.2.2.2.2.2.1,HD.out.2.1 _ hbb⟩) ?_;clear hK KK hHeld;intro hHeld
      try simp only [lpq]
      refine rdq1 21 fun KK hK => ?_;go_simp;refine hK.out _ _ (⟨HF.out.2.1 _ hbb _ _ HF.out.2.2.2.2.1,HF.out.2.1 _ hbb _ _ HF.out.2.2.2.2.2.1,HF.out.2.1 _ hbb _ _ HF.out.2.2.2.2.2.2.1,HF.out.2.1 _ hbb _ _ HF.out.2.2.2.2.2.2.2.1,HD.out.2.1 _ hbb⟩) ?_;clear hK KK hHeld;intro hHeld
      try simp only [lpq]
      refine puq 22 ?_;refine puq 23 ?_;refine puq 24 ?_;refine puq 25 ?_;refine dnq ?_;go_wp2;go_ret;exact ⟨rfl,HF.out.1 _ hbb⟩
end RegW
end Go.Proofs.YtmiijlecfiddmaaGreat
