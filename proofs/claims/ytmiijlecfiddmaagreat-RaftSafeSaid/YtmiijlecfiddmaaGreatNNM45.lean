/- A cluster: a reading is asked for. (Written by mkmove.py.) -/
import Derived.Test.YtmiijlecfiddmaaGreatNNM01
import Derived.Test.YtmiijlecfiddmaaGreatNNM42
import Derived.Test.YtmiijlecfiddmaaGreatNNM27
set_option linter.unusedVariables false
set_option linter.unusedSimpArgs false
set_option maxRecDepth 100000
set_option maxHeartbeats 6400000
namespace Go.Proofs.YtmiijlecfiddmaaGreat
open Go.RowKit Go.Shelf
attribute [local go_sem] Oper.semAt_some
theorem qh.readC {w : World} {S : Sim} {L : SimL} {lab : Nat -> Nat} (h : qh w S L lab) {k : Nat} (hk : k < S.n) (able : Able (S.r k)) :
 Calls Tryz.prog 10 #[ptrV (L.ps k)] w fun e w' => e = .returned (.tuple #[.int .i64 (S.r k).read.2.1, .int .i64 (S.r k).read.2.2]) /\ ∃ lab',qh w' { S with r := Sim.upd S.r k (S.r k).read.1 } L lab' /\ Turn (fun i => i = 11 + k) w w' lab lab' := by
 obtain ⟨q,s,xs,K,R,hfr⟩ := h.nodes k hk;refine (qid R (fun b hb => hb.1) able).mono ?_;rintro e w' ⟨e1,T⟩;obtain ⟨lab',z1,z2⟩ := h.turned hk T (qiy hfr);exact ⟨e1,lab',z1,z2⟩
theorem qh.stateC {w : World} {S : Sim} {L : SimL} {lab : Nat -> Nat} (h : qh w S L lab) {k : Nat} (hk : k < S.n) {N : Node} (hN : S.r k = N) (hl : N.lg.l.length <= 1000000) (hn : N.n <= 3) :
 Calls Tryz.prog 12 #[ptrV (L.ps k)] w fun e w' => ∃ NA nc MA mc,e = .returned (.agg #[.int .i64 N.ro, .int .i64 N.ld, .int .i64 N.wk, .int .i64 N.ht, .int .i64 N.hv, .int .i64 N.cm, .int .i64 N.lg.i, .int .i64 N.lg.lastI, .slice NA N.n nc, .slice MA N.n mc]) /\ Below w.heap.size w w' := by
 obtain ⟨q,s,xs,K,R,_⟩ := h.nodes k hk;rw [hN] at R;refine (qaE R hl hn).mono ?_;rintro e w' ⟨NA,nc,MA,mc,e1,_,_,_,_,hb⟩;exact ⟨NA,nc,MA,mc,e1,hb⟩
namespace RegW
theorem qhf {w : World} {S : Sim} {L : SimL} {lab : Nat -> Nat} (h : qh w S L lab) (a x : Int) (D : Option Addr) (d : List UInt8) (dc : Nat) (ha : 0 <= a /\ a < 256) (hn : 1 <= S.n /\ S.n <= 3) {k : Nat} (hk : k = a.toNat % S.n) (able : Able (S.r k)) (he : (S.r k).read.2.2 ≠ 0) (f : Fine { S with r := Sim.upd S.r k (S.r k).read.1 } k) (yes : (Sim.look { S with r := Sim.upd S.r k (S.r k).read.1 } k).2 = true) :
 Calls Tryz.prog 20 #[ptrV L.g, .agg #[.int .u8 6, .int .u8 a, .int .u8 x, .slice D d.length dc]] w fun e w' => e = .returned (.bool true) /\ Went w w' (Sim.look { S with r := Sim.upd S.r k (S.r k).read.1 } k).1 L lab := by
 obtain ⟨W0,hW0⟩ := exq (w.alloc (.cells #[.int .u8 6, .int .u8 a, .int .u8 x, .slice D d.length dc] 63))
 have hb0 : Below w.heap.size w W0 := by rw [<- hW0]; exact blq.alloc nlq _
 have hr0 : W0.heap[w.heap.size]? = some (.cells #[.int .u8 6, .int .u8 a, .int .u8 x, .slice D d.length dc] 63) := by rw [<- hW0]; exact heap_alloc_new w _
 have x0 := qb hr0 0 (.int .u8 6) rfl;have x1 := qb hr0 1 (.int .u8 a) rfl;have x2 := qb hr0 2 (.int .u8 x) rfl;have x3 := qb hr0 3 (.slice D d.length dc) rfl;have h0 := h.below hb0
 have ek : a % (S.n : Int) = (k : Int) := by
  rw [hk]
  have : a = ((a.toNat : Nat) : Int) := by omega
  rw [this];simp
 have hkn : k < S.n := by rw [hk]; exact Nat.mod_lt _ (by omega)
 obtain ⟨b,off,eA,hpc,hpl,hpn⟩ := h0.ptr hkn;have c0 := qb h0.row 0 _ rfl;rw [show (simC S L)[0] = .slice L.Ar S.n L.cr from rfl,eA] at c0;have c7 := qb h0.row 7 _ rfl;rw [show (simC S L)[7] = .slice L.Aa S.all.length L.ca from rfl] at c7;have c8 := qb h0.row 8 _ rfl;rw [show (simC S L)[8] = .slice L.Aq S.rds.length L.cq from rfl] at c8
 have hT := fun W (hW : Below W0.heap.size W0 W) => qh.readC (h0.below hW) hkn able
 have hee : ((S.r k).read.2.2 == 0) = false := by simpa using he
 have hgl : lab L.g = 1 := h.me;have H := hdq2 f yes;have H0 := hdq2 h hb0;clear h h0 f yes hb0 hk eA hr0 able
 go_enter Tryz.func20,Tryz.ntmps20
 go_wp2_with fail
 clear hW0
 go_quiet (fail)
 go_wp2_with fail
 refine (hT _ bbq).mono ?_;rintro e w1 ⟨rfl,lab1,h1,t1⟩;have d0 := t1.cell bbq c0 (by rw [hgl]; omega);have d1 := t1.cell bbq hpc (by rw [hpl]; omega);have d8 := t1.cell bbq c8 (by rw [hgl]; omega);have t2 := Turn.onto (fun b hb => H0.out.1.lim b (Nat.le_trans H0.out.2.size hb)) blq bbq t1 (by omega);clear hT x0 x1 x2 x3 c0 hpc c7 c8 hgl;have hL := qE h1 k H.out.1 H.out.2;have H1 := Lib.hid t2;clear h1 t1 t2 d0 d1 d8
 go_wp2_with fail
 refine hL.mono ?_;rintro e w2 ⟨rfl,Ww⟩;have H2 := Lib.hid (Went.after H0.out.1 H0.out.2 (Went.then rfl H1.out Ww));clear hL Ww;go_wp2;go_ret;exact ⟨rfl,H2.out⟩
theorem qgj {w : World} {S : Sim} {L : SimL} {lab : Nat -> Nat} (h : qh w S L lab) (a x : Int) (D : Option Addr) (d : List UInt8) (dc : Nat) (ha : 0 <= a /\ a < 256) (hn : 1 <= S.n /\ S.n <= 3) {k : Nat} (hk : k = a.toNat % S.n) (able : Able (S.r k)) (he : (S.r k).read.2.2 = 0) (f : Fine { S with r := Sim.upd S.r k (S.r k).read.1,rds := S.rds ++ [⟨k,(S.r k).read.2.1,(S.r k).read.1.ht,S.all.length⟩] } k) (yes : (Sim.look { S with r := Sim.upd S.r k (S.r k).read.1,rds := S.rds ++ [⟨k,(S.r k).read.2.1,(S.r k).read.1.ht,S.all.length⟩] } k).2 = true) :
 Calls Tryz.prog 20 #[ptrV L.g, .agg #[.int .u8 6, .int .u8 a, .int .u8 x, .slice D d.length dc]] w fun e w' => e = .returned (.bool true) /\ Went w w' (Sim.look { S with r := Sim.upd S.r k (S.r k).read.1,rds := S.rds ++ [⟨k,(S.r k).read.2.1,(S.r k).read.1.ht,S.all.length⟩] } k).1 L lab := by
 obtain ⟨W0,hW0⟩ := exq (w.alloc (.cells #[.int .u8 6, .int .u8 a, .int .u8 x, .slice D d.length dc] 63))
 have hb0 : Below w.heap.size w W0 := by rw [<- hW0]; exact blq.alloc nlq _
 have hr0 : W0.heap[w.heap.size]? = some (.cells #[.int .u8 6, .int .u8 a, .int .u8 x, .slice D d.length dc] 63) := by rw [<- hW0]; exact heap_alloc_new w _
 have x0 := qb hr0 0 (.int .u8 6) rfl;have x1 := qb hr0 1 (.int .u8 a) rfl;have x2 := qb hr0 2 (.int .u8 x) rfl;have x3 := qb hr0 3 (.slice D d.length dc) rfl;have h0 := h.below hb0
 have ek : a % (S.n : Int) = (k : Int) := by
  rw [hk]
  have : a = ((a.toNat : Nat) : Int) := by omega
  rw [this];simp
 have hkn : k < S.n := by rw [hk]; exact Nat.mod_lt _ (by omega)
 obtain ⟨b,off,eA,hpc,hpl,hpn⟩ := h0.ptr hkn;have c0 := qb h0.row 0 _ rfl;rw [show (simC S L)[0] = .slice L.Ar S.n L.cr from rfl,eA] at c0;have c7 := qb h0.row 7 _ rfl;rw [show (simC S L)[7] = .slice L.Aa S.all.length L.ca from rfl] at c7;have c8 := qb h0.row 8 _ rfl;rw [show (simC S L)[8] = .slice L.Aq S.rds.length L.cq from rfl] at c8
 have hT := fun W (hW : Below W0.heap.size W0 W) => qh.readC (h0.below hW) hkn able
 simp only [he] at hT;have HA := Lib.hid eA;clear he;have hgl : lab L.g = 1 := h.me;have H := hdq2 f yes;have H0 := hdq2 h hb0;clear h h0 f yes hb0 hk eA hr0 able
 go_enter Tryz.func20,Tryz.ntmps20
 go_wp2_with fail
 clear hW0
 go_quiet (fail)
 go_wp2_with fail
 refine (hT _ bbq).mono ?_;rintro e w1 ⟨rfl,lab1,h1,t1⟩;have d0 := t1.cell bbq c0 (by rw [hgl]; omega);have d1 := t1.cell bbq hpc (by rw [hpl]; omega);have d8 := t1.cell bbq c8 (by rw [hgl]; omega);have t2 := Turn.onto (fun b hb => H0.out.1.lim b (Nat.le_trans H0.out.2.size hb)) blq bbq t1 (by omega);clear hT x0 x1 x2 x3 c0 hpc c7 c8 hgl;have hlg : L.g < w1.heap.size := World.block_lt_of_cell? w1 ⟨L.g,0,none⟩ d0;have hlb : b < w1.heap.size := World.block_lt_of_cell? w1 ⟨b,off + k,none⟩ d1;have hlb2 : lab1 b = 2 := h1.r.lb b ⟨off,HA.out⟩
 have hnq : ¬ blk L.Aq L.g := fun e9 => by have h2 := h1.q.lb _ e9; rw [h1.me] at h2; omega
 have hnb : ¬ blk L.Aq b := fun e9 => by have h2 := h1.q.lb _ e9; rw [hlb2] at h2; omega
 have hrn : S.rds.length + 1 <= 1000000 := by have h2 := H.out.1.rds; simpa using h2
 have h1c : ∀ u ∈ ([.int .i64 (k : Int), .int .i64 (S.r k).read.2.1, .int .i64 (S.r k).read.1.ht, .int .i64 (S.all.length : Int)] : List Value),u.oneCell' = true := fun u hu => by
  simp only [List.mem_cons,List.not_mem_nil,or_false] at hu
  rcases hu with rfl | rfl | rfl | rfl <;> rfl
 have hSW : ∀ W,Below w1.heap.size w1 W -> (fun w' : World => w'.cell? ⟨L.g,8,none⟩ = some (.slice L.Aq S.rds.length L.cq) /\ w'.cell? ⟨L.g,0,none⟩ = some (.slice (some ⟨b,off,none⟩) S.n L.cr) /\ w'.cell? ⟨b,off + k,none⟩ = some (ptrV (L.ps k))) W := fun W hW => by
  have hc : ∀ a v,w1.cell? a = some v -> W.cell? a = some v := fun a v hv => (World.cell?_of_block (hW.block a.block (World.block_lt_of_cell? w1 a hv))).trans hv
  exact ⟨hc _ _ d8,hc _ _ d0,hc _ _ d1⟩
 have hSX : ∀ W : World,W.heap[L.g]? = w1.heap[L.g]? -> W.heap[b]? = w1.heap[b]? -> (fun w' : World => w'.cell? ⟨L.g,8,none⟩ = some (.slice L.Aq S.rds.length L.cq) /\ w'.cell? ⟨L.g,0,none⟩ = some (.slice (some ⟨b,off,none⟩) S.n L.cr) /\ w'.cell? ⟨b,off + k,none⟩ = some (ptrV (L.ps k))) W := fun W e1 e2 => ⟨(World.cell?_of_block (a := ⟨L.g,8,none⟩) e1).trans d8,(World.cell?_of_block (a := ⟨L.g,0,none⟩) e1).trans d0,(World.cell?_of_block (a := ⟨b,off + k,none⟩) e2).trans d1⟩
 have hSt := fun W (hW : Below w1.heap.size w1 W) => qh.stateC (h1.below hW) hkn (N := (S.r k).read.1) (qm _ _ _) (by have h2 := H.out.1.len; simp only [qm] at h2; omega) (by have h2 := H.out.1.nn; simpa only [qm] using h2)
 have hSp := fun W (hW : Below w1.heap.size w1 W) => (h1.below hW).q.sp
 have hrow := h1.row;have hf3 := qel;have hf0 := qfO;have HS := hdq5 hSW hSt hSp hSX hrow;have H1 := hdq2 h1 t2;clear hSW hSt hSp hSX hrow h1 t1 t2 hlb2
 go_wp2_with fail
 clear d0 d1 d8;refine wp_region_held_drew ⟨(fun w' : World => w'.cell? ⟨L.g,8,none⟩ = some (.slice L.Aq S.rds.length L.cq) /\ w'.cell? ⟨L.g,0,none⟩ = some (.slice (some ⟨b,off,none⟩) S.n L.cr) /\ w'.cell? ⟨b,off + k,none⟩ = some (ptrV (L.ps k))),[23]⟩ (by kernel_rfl) (HS.out.1 _ bbq) (fun hHeld => ?_);refine lsq 24 ?_;refine puq 0 ?_;refine puq 1 ?_;refine puq 2 ?_;refine puq 3 ?_;refine tkq 4 ?_;refine puq 5 ?_;refine puq 6 ?_;refine puq 7 ?_;refine puq 8 ?_;refine puq 9 ?_;refine tkq 10 ?_;refine puq 11 ?_;refine puq 12 ?_;refine tkq 13 ?_;refine puq 17 ?_;refine rdq1 14 fun KK hK => ?_;go_simp;refine (HS.out.2.1 _ bbq).mono ?_;rintro e5 w5 ⟨NA,nc,MA,mc,rfl,hb5⟩;have hb15 : Below w1.heap.size w1 w5 := (show Below w1.heap.size w1 _ from bbq).trans (hb5.mono (by simp));refine hK.out _ _ (HS.out.1 _ hb15) ?_;clear hK KK hHeld;intro hHeld
 try simp only [lpq]
 refine puq 15 ?_;refine puq 16 ?_;refine puq 18 ?_;refine rdq1 19 fun KK hK => ?_;go_simp;refine hK.out _ _ (HS.out.1 _ (by first | exact hb15 | exact hb15.alloc hb15.size _)) ?_;clear hK KK hHeld;intro hHeld
 try simp only [lpq]
 refine rdq1 20 fun KK hK => ?_;refine ql qgR _ (by rfl) _ _ (by rfl) L.Aq S.rds.length L.cq (qaq S.rds) (by rfl) (HS.out.2.2.1 _ (by first | exact hb15 | exact hb15.alloc hb15.size _)) _ 1 1 [.int .i64 (k : Int), .int .i64 (S.r k).read.2.1, .int .i64 (S.r k).read.1.ht, .int .i64 (S.all.length : Int)] (by rfl) (fun e => by cases e) (by rfl) h1c (fun b e9 => by cases e9; exact cells_lit (C := [.int .i64 (k : Int), .int .i64 (S.r k).read.2.1, .int .i64 (S.r k).read.1.ht, .int .i64 (S.all.length : Int)]) (heap_alloc_new _ _)) (by omega) ?_;intro A5 n5 w6 hsp5 hA5 hg5;have hX5 := qN (w := w1) hg5 (by first | exact hb15 | exact hb15.alloc hb15.size _);have hr5 := (hg5.block L.g (by have := hX5.size; omega) hnq).trans (hX5.block _ hlg);have hr6 := (hg5.block b (by have := hX5.size; omega) hnb).trans (hX5.block _ hlb);refine hK.out _ _ (HS.out.2.2.2.1 w6 hr5 hr6) ?_;clear hK KK hHeld;intro hHeld
 try simp only [lpq]
 refine puq 21 ?_;refine puq 22 ?_;have e8 := hHeld.1;have f8 := qg (hr5.trans HS.out.2.2.2.2) 8;refine ltq 23 fun KK hK => ?_;go_simp;refine hK.out _ _ ?_;clear hK KK
 try simp only [lpq]
 clear e8 f8;refine dnq ?_;obtain ⟨lab2,z1,z2⟩ := H1.out.1.readed ⟨k,(S.r k).read.2.1,(S.r k).read.1.ht,S.all.length⟩ hX5 (by exact hsp5) hA5 hg5;obtain ⟨W6,hW6⟩ := exq (w6.setCell ⟨L.g,8,none⟩ (.slice A5 (S.rds.length + 1) n5));rw [hW6] at z1 z2 ⊢;have hL := qE z1 k H.out.1 H.out.2;dsimp only at hL;have H3 := Lib.hid (H1.out.2.trans (z2.wide (J' := fun i => i ≠ 0) fun i e => by omega) (by decide));clear hW6 z1 z2 hsp5 hA5 hg5 hX5 hr5 hr6 hb5 hb15 HS
 go_wp2_with fail
 refine hL.mono ?_;rintro e w2 ⟨rfl,Ww⟩;have H2 := Lib.hid (Went.after H0.out.1 H0.out.2 (Went.then rfl H3.out Ww));clear hL Ww;go_wp2;go_ret;exact ⟨rfl,H2.out⟩
end RegW
end Go.Proofs.YtmiijlecfiddmaaGreat
set_option linter.unusedVariables false
set_option linter.unusedSimpArgs false
set_option maxRecDepth 100000
set_option maxHeartbeats 200000
namespace Go.Proofs.YtmiijlecfiddmaaGreat
open Go.RowKit Go.Shelf
attribute [local go_sem] Oper.semAt_some
end Go.Proofs.YtmiijlecfiddmaaGreat
set_option linter.unusedVariables false
set_option linter.unusedSimpArgs false
set_option maxRecDepth 100000
set_option maxHeartbeats 3200000
namespace Go.Proofs.YtmiijlecfiddmaaGreat
open Go.RowKit Go.Shelf
attribute [local go_sem] Oper.semAt_some
def oneN : Nat -> Node
 | 0 => Node.fresh 0 1 0 (-1) Node.noEnt []
 | k + 1 => (oneN k).tick
theorem qbO : (oneN 6).ro = 3 /\ (oneN 6).cm = 1 := by decide
theorem qfU : ∀ k : Nat,k <= 5 -> oneN k = { Node.fresh 0 1 0 (-1) Node.noEnt [] with wk := (k : Int) }
 | 0,_ => rfl
 | k + 1,hk => by
   show (oneN k).tick = _;rw [qfU k (by omega),qfo (by show ¬ (0 : Int) = 3; decide) (.inl (by show (k : Int) + 1 < 6 + 3 * ((0 : Nat) : Int); omega))]
   rfl
theorem qiH (a0 a1 a2 a3 a4 a5 a6 a7 a8 a9 : Value) (w : World) : (Instr.field 48 (.agg #[a0,a1,a2,a3,a4,a5,a6,a7,a8,a9]) 0).run Tryz.prog w = .ok a0 w := by kernel_rfl
theorem qcJ (a0 a1 a2 a3 a4 a5 a6 a7 a8 a9 : Value) (w : World) : (Instr.field 48 (.agg #[a0,a1,a2,a3,a4,a5,a6,a7,a8,a9]) 4).run Tryz.prog w = .ok a5 w := by kernel_rfl
theorem qiI : Good (⟨0,0,[],0⟩ : RL) := ⟨rfl,rfl⟩
theorem qiJ {w : World} {p : Nat} {Z : Nat -> Prop} {q : Ptrs} {s : Nat} {xs : List MLay} {K : Nat -> Prop} (k : Nat) (hk : k <= 5) (h : RfAt w p (oneN k) Z q s xs K) (hZ : ∀ b,Z b -> b < w.heap.size) :
 Calls Tryz.prog 8 #[ptrV p] w fun e w' => e = .returned (.tuple #[]) /\ Turned w w' p (oneN (k + 1)) Z q s := by
 show Calls _ _ _ _ fun e w' => _ /\ Turned w w' p (oneN k).tick Z q s
 have e := qfU k hk;rw [e] at h ⊢
 exact qeg h hZ (by show (0 : Nat) < 999990; decide) (by show (0 : Nat) <= 400000; decide) qiI ⟨by show 1 <= 3; decide,by show 0 < 1; decide⟩ (by show (0 : Nat) <= 50000; decide) (fun _ => ⟨rfl,rfl,rfl,rfl,rfl⟩) ⟨by show (0 : Int) <= 0; decide,by show (0 : Int) <= 2199023255552; decide⟩
  ⟨by show (0 : Int) <= (k : Int); omega,by show (k : Int) <= 2199023255552; omega⟩ (fun _ => ⟨by show (-4611686018427387904 : Int) <= 0; decide,by show (0 : Int) <= 4611686018427387904; decide⟩) (by show (0 : Int) <= 0; decide)
theorem qcj : (oneN 6).lg.l.length <= 1000000 /\ (oneN 6).n <= 3 := by decide
theorem qc5 (w : World) : Calls Tryz.prog 6 #[] w fun e w' => e = .returned (.bool true) /\ Below w.heap.size w w' := by
 have hN := qdh 0 1 0 (-1) Node.noEnt [] none 0 none 0 (fun _ => False) w ⟨by decide,by decide,by decide⟩ (by decide) (by decide) (by decide) (by decide) (by decide) (Lies.nil _) (fun h0 => absurd h0 (by decide)) (by decide) (qY _ _) (by decide)
 go_enter Tryz.func6,Tryz.ntmps6
 go_wp2_with fail
 refine hN.mono ?_;rintro e w2 ⟨p,q,s,K,rfl,R2,_,hb2⟩;have HR := hdq2 R2 hb2;clear R2 hb2 hN
 go_wp2_with fail
 go_loopw [11] (fun v11 wr => ∃ k : Nat,k <= 6 /\ v11 = .int .i64 (k : Int) /\ ∃ q s xs K,RfAt wr p (oneN k) (fun b => b < w.heap.size) q s xs K /\ qf (fun b => b < w.heap.size) w wr) (fun v11 _ => 6 - (intOf v11).toNat)
 case atStart => exact ⟨0,Nat.zero_le _,rfl,q,s,[],K,HR.out.1,keeps_below HR.out.2 nlq⟩
 case round =>
  obtain ⟨k,hk,rfl,q',s',xs',K',R,hkk⟩ := hrel
  by_cases hlt2 : k < 6
  · have e1 : decide ((k : Int) < 6) = true := decide_eq_true (by omega);have hT := qiJ k (by omega) R (fun b hb => Nat.lt_of_lt_of_le hb hkk.size);have HK := Lib.hid hkk;clear R hkk
    go_wp2_with fail
    refine hT.mono ?_;rintro e w3 ⟨rfl,hTd⟩;have HT := Lib.hid hTd;clear hTd hT;go_wp2
    go_roundw
    case rel =>
     obtain ⟨q3,xs3,K3,R3,_,k3⟩ := HT.out;exact ⟨k + 1,by omega,by go_num,q3,s',xs3,K3,R3,HK.out.trans k3⟩
    case measure =>
     simp [intOf]
     omega
  · obtain rfl : k = 6 := by omega
    have hS := qaE R qcj.1 qcj.2;rw [qbO.1,qbO.2] at hS;have HK := hdq2 R hkk;clear R hkk;have hf0 := qiH;have hf4 := qcJ
    go_wp2_with fail
    refine hS.mono ?_;rintro e w3 ⟨NA,nc,MA,mc,rfl,_,_,_,_,hb3⟩;obtain ⟨R,hkk⟩ := HK.out;have hS2 := qaE (R.below hb3) qcj.1 qcj.2;rw [qbO.1,qbO.2] at hS2;have HB := Lib.hid hb3;clear R hkk hb3 hS
    go_wp2_with fail
    refine hS2.mono ?_;rintro e w4 ⟨NA',nc',MA',mc',rfl,_,_,_,_,hb4⟩;go_wp2;go_ret;have z := HK.out.2.size;have z2 := HB.out.size;have h0 : Below w.heap.size w wr := ⟨HK.out.2.os,HK.out.2.tape,HK.out.2.output,z,fun b hb => HK.out.2.block b hb hb⟩;exact ⟨rfl,(h0.trans (HB.out.mono z)).trans (hb4.mono (by omega))⟩
end Go.Proofs.YtmiijlecfiddmaaGreat
set_option linter.unusedVariables false
set_option linter.unusedSimpArgs false
set_option maxRecDepth 100000
set_option maxHeartbeats 6400000
namespace Go.Proofs.YtmiijlecfiddmaaGreat
open Go.RowKit Go.Shelf
attribute [local go_sem] Oper.semAt_some
theorem qh.compactC {w : World} {S : Sim} {L : SimL} {lab : Nat -> Nat} (h : qh w S L lab) {k : Nat} (hk : k < S.n) {N N1 : Node} {ok : Bool} (hN : S.r k = N) (hg : Good N.lg) (hl : N.lg.l.length <= 1000000) (x : Int) (D : Option Addr) (n dc : Nat) (d : List UInt8) (hD : Lies w D n dc d) (hz : ∀ g o,D = some ⟨g,o,none⟩ -> g < w.heap.size /\ lab g = 0) (hc : N.compact x d = (N1,ok)) :
 Calls Tryz.prog 15 #[ptrV (L.ps k), .int .i64 x, .slice D n dc] w fun e w' => e = .returned (.int .i64 (if ok = true then 0 else 1)) /\ ∃ lab',qh w' { S with r := Sim.upd S.r k N1 } L lab' /\ Turn (fun i => i = 11 + k) w w' lab lab' := by
 obtain ⟨q,s,xs,K,R,hfr⟩ := h.nodes k hk;rw [hN] at R hfr;obtain rfl : d.length = n := hD.1;refine (qfD R (fun b hb => hb.1) hg hl hfr x D dc d hD (fun _ g o e => ?_)).mono ?_
 · obtain ⟨h1,h2⟩ := hz g o e;exact ⟨h1,by rw [h2]; omega⟩
 rintro e w' ⟨e1,s',T,hs⟩;rw [hc] at e1 T hs;obtain ⟨lab',z1,z2⟩ := h.turned hk T hs;exact ⟨e1,lab',z1,z2⟩
theorem qh.snapC {w : World} {S : Sim} {L : SimL} {lab : Nat -> Nat} (h : qh w S L lab) {k : Nat} (hk : k < S.n) {N : Node} (hN : S.r k = N) (hsd : N.sn.d.length <= 50000) :
 Calls Tryz.prog 16 #[ptrV (L.ps k)] w fun e w' => ∃ E c,e = .returned (.agg #[.int .i64 N.sn.i, .int .i64 N.sn.t, .slice E N.sn.d.length c]) /\ Lies w' E N.sn.d.length c N.sn.d /\ (∀ b,blk E b -> w.heap.size <= b) /\ Below w.heap.size w w' := by
 obtain ⟨q,s,xs,K,R,_⟩ := h.nodes k hk;rw [hN] at R;exact qej R hsd
theorem qh.entriesC {w : World} {S : Sim} {L : SimL} {lab : Nat -> Nat} (h : qh w S L lab) {k : Nat} (hk : k < S.n) {N : Node} (hN : S.r k = N) (hg : Good N.lg) (hl : N.lg.l.length <= 1000000) (a b : Int) (ha : -4611686018427387904 <= a /\ a <= 4611686018427387904) (hb : -4611686018427387904 <= b /\ b <= 4611686018427387904) :
 Calls Tryz.prog 17 #[ptrV (L.ps k), .int .i64 a, .int .i64 b] w fun e w' => ∃ A' c',e = .returned (.slice A' (N.part a b).length c') /\ Ents w' (fun k => w.heap.size <= k) A' (N.part a b).length c' (N.part a b) /\ Below w.heap.size w w' := by
 obtain ⟨q,s,xs,K,R,_⟩ := h.nodes k hk;rw [hN] at R;exact qbx R hg hl a b ha hb
namespace RegW
theorem qeJ {w : World} {S : Sim} {L : SimL} {lab : Nat -> Nat} (h : qh w S L lab) (a x : Int) (D : Option Addr) (d : List UInt8) (dc : Nat) (ha : 0 <= a /\ a < 256) (hn : 1 <= S.n /\ S.n <= 3) {k : Nat} (hk : k = a.toNat % S.n) {N N1 : Node} {i : Nat} (hN : S.r k = N) (hi : N.cm = (i : Int)) (hil : i <= S.all.length) (hal : S.all.length <= 400000) (hdl : ∀ e ∈ S.all,e.d.length <= 1000000) (hg : Good N.lg) (hl : N.lg.l.length <= 1000000) (hnn : N.n <= 3) (hc : N.compact (i : Int) (Sim.digest (S.all.take i)) = (N1,false)) (f : Fine { S with r := Sim.upd S.r k N1 } k) (yes : (Sim.look { S with r := Sim.upd S.r k N1 } k).2 = true) :
 Calls Tryz.prog 20 #[ptrV L.g, .agg #[.int .u8 7, .int .u8 a, .int .u8 x, .slice D d.length dc]] w fun e w' => e = .returned (.bool true) /\ Went w w' (Sim.look { S with r := Sim.upd S.r k N1 } k).1 L lab := by
 obtain ⟨W0,hW0⟩ := exq (w.alloc (.cells #[.int .u8 7, .int .u8 a, .int .u8 x, .slice D d.length dc] 63))
 have hb0 : Below w.heap.size w W0 := by rw [<- hW0]; exact blq.alloc nlq _
 have hr0 : W0.heap[w.heap.size]? = some (.cells #[.int .u8 7, .int .u8 a, .int .u8 x, .slice D d.length dc] 63) := by rw [<- hW0]; exact heap_alloc_new w _
 have x0 := qb hr0 0 (.int .u8 7) rfl;have x1 := qb hr0 1 (.int .u8 a) rfl;have x2 := qb hr0 2 (.int .u8 x) rfl;have x3 := qb hr0 3 (.slice D d.length dc) rfl;have h0 := h.below hb0
 have ek : a % (S.n : Int) = (k : Int) := by
  rw [hk]
  have : a = ((a.toNat : Nat) : Int) := by omega
  rw [this];simp
 have hkn : k < S.n := by rw [hk]; exact Nat.mod_lt _ (by omega)
 obtain ⟨b,off,eA,hpc,hpl,hpn⟩ := h0.ptr hkn;have c0 := qb h0.row 0 _ rfl;rw [show (simC S L)[0] = .slice L.Ar S.n L.cr from rfl,eA] at c0;have c7 := qb h0.row 7 _ rfl;rw [show (simC S L)[7] = .slice L.Aa S.all.length L.ca from rfl] at c7
 have hT := fun W (hW : Below W0.heap.size W0 W) => qh.stateC (h0.below hW) hkn hN hl hnn
 simp only [hi] at hT;have hnc := h0.a.sp.2.1;have H := hdq2 f yes;have H0 := hdq8 h hb0 h0 hN hc hg hdl eA;clear h h0 f yes hb0 hk eA hr0 hN hc hg hdl hi;have hf4 := qcJ
 have q3 : ¬ ((S.all.length : Int) < (i : Int)) := by omega
 go_enter Tryz.func20,Tryz.ntmps20
 go_wp2_with fail
 clear hW0
 go_quiet (fail)
 go_wp2_with fail
 refine (hT _ bbq).mono ?_;rintro e w1 ⟨NA,nc,MA,mc,rfl,hb1⟩;have hb01 : Below W0.heap.size W0 w1 := (show Below W0.heap.size W0 _ from bbq).trans (hb1.mono (by simp))
 have hc1 : ∀ a v,W0.cell? a = some v -> w1.cell? a = some v := fun a v hv => (World.cell?_of_block (hb01.block a.block (World.block_lt_of_cell? W0 a hv))).trans hv
 have d0 := hc1 _ _ c0;have d1 := hc1 _ _ hpc;have d7 := hc1 _ _ c7;have h1 := H0.out.2.2.1.below hb01
 have hsl := fun W => qb6 (A := L.Aa) (n := S.all.length) (cap := L.ca) qa0 (k := i) (by omega) W
 have hSW : ∀ W,Below w1.heap.size w1 W -> (fun w' : World => w'.cell? ⟨L.g,0,none⟩ = some (.slice (some ⟨b,off,none⟩) S.n L.cr) /\ w'.cell? ⟨b,off + k,none⟩ = some (ptrV (L.ps k)) /\ w'.cell? ⟨L.g,7,none⟩ = some (.slice L.Aa S.all.length L.ca)) W := fun W hW => by
  have hc : ∀ a v,w1.cell? a = some v -> W.cell? a = some v := fun a v hv => (World.cell?_of_block (hW.block a.block (World.block_lt_of_cell? w1 a hv))).trans hv
  exact ⟨hc _ _ d0,hc _ _ d1,hc _ _ d7⟩
 have hlt2 : (S.all.take i).length = i := by rw [List.length_take]; omega
 have hdP := fun W (hW : Below w1.heap.size w1 W) => qbU (w := W) (S.all.take i) ((h1.front hil).below hW nlq) (by omega) (fun e he => H0.out.2.2.2.2.2.2.1 e (List.mem_of_mem_take he))
 rw [hlt2] at hdP
 have hCm := fun W (hW : Below w1.heap.size w1 W) (D : Option Addr) (n dc : Nat) (d : List UInt8) (hD : Lies W D n dc d) (hz : ∀ g o,D = some ⟨g,o,none⟩ -> g < W.heap.size /\ lab g = 0) => fun hc => qh.compactC (N1 := N1) (ok := false) (h1.below hW) hkn H0.out.2.2.2.1 H0.out.2.2.2.2.2.1 hl (i : Int) D n dc d hD hz hc
 have hCm := fun W hW D n dc hD hz => hCm W hW D n dc _ hD hz H0.out.2.2.2.2.1
 have hlim : ∀ b,w1.heap.size <= b -> lab b = 0 := h1.lim;have HS := hdq4 hSW hdP hCm hlim;have H1 := hdq2 h1 hb01;clear hSW hdP hCm hlim h1 hT hb1 hb01 hc1 x0 x1 x2 x3 c0 hpc c7 hlt2 d0 d1
 go_wp2_with fail
 clear d7;refine wp_region_held_drew ⟨(fun w' : World => w'.cell? ⟨L.g,0,none⟩ = some (.slice (some ⟨b,off,none⟩) S.n L.cr) /\ w'.cell? ⟨b,off + k,none⟩ = some (ptrV (L.ps k)) /\ w'.cell? ⟨L.g,7,none⟩ = some (.slice L.Aa S.all.length L.ca)),[15]⟩ (by kernel_rfl) (HS.out.1 _ bbq) (fun hHeld => ?_);refine lsq 17 ?_;refine puq 0 ?_;refine puq 1 ?_;refine puq 2 ?_;refine tvq 3 [5,6] ?_;refine puq 4 ?_;refine puq 5 ?_;refine tkq 6 ?_;refine puq 7 ?_;refine puq 8 ?_;refine puq 9 ?_;refine puq 10 ?_;refine tvq 11 [13,14] ?_;refine puq 12 ?_;refine puq 13 ?_;refine rdq1 14 fun KK hK => ?_;go_simp;refine (HS.out.2.1 _ bbq).mono ?_;rintro e5 w5 ⟨g5,c5,rfl,hl5,hg5,hb5⟩;have hb15 : Below w1.heap.size w1 w5 := (show Below w1.heap.size w1 _ from bbq).trans (hb5.mono (by simp))
 have hz5 : ∀ g o,(some ⟨g5,0,none⟩ : Option Addr) = some ⟨g,o,none⟩ -> g < w5.heap.size /\ lab g = 0 := fun g o e => by
  injection e with e;injection e with e1;subst e1;exact ⟨hl5.2.2.2 (by omega) |>.elim fun g' h => h.elim fun o' h => by have h1 := h.1; injection h1 with h1; injection h1 with h1; have h2 := h.2.1; omega,HS.out.2.2.2 _ (by simpa using hg5)⟩
 refine hK.out _ _ (HS.out.1 _ hb15) ?_;clear hK KK hHeld;intro hHeld
 try simp only [lpq]
 refine ltq 15 fun KK hK => ?_;go_simp;refine (HS.out.2.2.1 _ hb15 (some ⟨g5,0,none⟩) 4 c5 hl5 hz5).mono ?_;rintro e w6 ⟨rfl,lab6,h6,t6⟩;refine hK.out _ _ ?_;clear hK KK
 try simp only [lpq]
 refine plq 16 ?_;refine dnq ?_;have hL := qE h6 k H.out.1 H.out.2;have H3 := Lib.hid (Turn.onto (fun b hb => H0.out.1.lim b (Nat.le_trans H0.out.2.1.size hb)) H1.out.2 hb15 t6 (by omega));clear h6 t6 hl5 hz5 hb5 hb15 hg5 HS
 go_wp2_with fail
 refine hL.mono ?_;rintro e w2 ⟨rfl,Ww⟩;have H2 := Lib.hid (Went.after H0.out.1 H0.out.2.1 (Went.then rfl H3.out Ww));clear hL Ww;go_wp2;go_ret;exact ⟨rfl,H2.out⟩
theorem qdZ {w : World} {S : Sim} {L : SimL} {lab : Nat -> Nat} (h : qh w S L lab) (a x : Int) (D : Option Addr) (d : List UInt8) (dc : Nat) (ha : 0 <= a /\ a < 256) (hn : 1 <= S.n /\ S.n <= 3) {k : Nat} (hk : k = a.toNat % S.n) {N N1 : Node} {i : Nat} (hN : S.r k = N) (hi : N.cm = (i : Int)) (hil : i <= S.all.length) (hal : S.all.length <= 400000) (hdl : ∀ e ∈ S.all,e.d.length <= 1000000) (hg : Good N.lg) (hl : N.lg.l.length <= 1000000) (hnn : N.n <= 3) (hc : N.compact (i : Int) (Sim.digest (S.all.take i)) = (N1,true)) (f : Fine { S with r := Sim.upd S.r k N1,sn := Sim.upd S.sn k N1.sn,lg := Sim.upd S.lg k (N1.part ((i : Int) + 1) 1099511627776) } k) (yes : (Sim.look { S with r := Sim.upd S.r k N1,sn := Sim.upd S.sn k N1.sn,lg := Sim.upd S.lg k (N1.part ((i : Int) + 1) 1099511627776) } k).2 = true) :
 Calls Tryz.prog 20 #[ptrV L.g, .agg #[.int .u8 7, .int .u8 a, .int .u8 x, .slice D d.length dc]] w fun e w' => e = .returned (.bool true) /\ Went w w' (Sim.look { S with r := Sim.upd S.r k N1,sn := Sim.upd S.sn k N1.sn,lg := Sim.upd S.lg k (N1.part ((i : Int) + 1) 1099511627776) } k).1 L lab := by
 obtain ⟨W0,hW0⟩ := exq (w.alloc (.cells #[.int .u8 7, .int .u8 a, .int .u8 x, .slice D d.length dc] 63))
 have hb0 : Below w.heap.size w W0 := by rw [<- hW0]; exact blq.alloc nlq _
 have hr0 : W0.heap[w.heap.size]? = some (.cells #[.int .u8 7, .int .u8 a, .int .u8 x, .slice D d.length dc] 63) := by rw [<- hW0]; exact heap_alloc_new w _
 have x0 := qb hr0 0 (.int .u8 7) rfl;have x1 := qb hr0 1 (.int .u8 a) rfl;have x2 := qb hr0 2 (.int .u8 x) rfl;have x3 := qb hr0 3 (.slice D d.length dc) rfl;have h0 := h.below hb0
 have ek : a % (S.n : Int) = (k : Int) := by
  rw [hk]
  have : a = ((a.toNat : Nat) : Int) := by omega
  rw [this];simp
 have hkn : k < S.n := by rw [hk]; exact Nat.mod_lt _ (by omega)
 obtain ⟨b,off,eA,hpc,hpl,hpn⟩ := h0.ptr hkn;have c0 := qb h0.row 0 _ rfl;rw [show (simC S L)[0] = .slice L.Ar S.n L.cr from rfl,eA] at c0;have c7 := qb h0.row 7 _ rfl;rw [show (simC S L)[7] = .slice L.Aa S.all.length L.ca from rfl] at c7
 have hT := fun W (hW : Below W0.heap.size W0 W) => qh.stateC (h0.below hW) hkn hN hl hnn
 simp only [hi] at hT;have hnc := h0.a.sp.2.1;have H := hdq2 f yes;have H0 := hdq8 h hb0 h0 hN hc hg hdl eA;clear h h0 f yes hb0 hk eA hr0 hN hc hg hdl hi;have hf4 := qcJ
 have q3 : ¬ ((S.all.length : Int) < (i : Int)) := by omega
 go_enter Tryz.func20,Tryz.ntmps20
 go_wp2_with fail
 clear hW0
 go_quiet (fail)
 go_wp2_with fail
 refine (hT _ bbq).mono ?_;rintro e w1 ⟨NA,nc,MA,mc,rfl,hb1⟩;have hb01 : Below W0.heap.size W0 w1 := (show Below W0.heap.size W0 _ from bbq).trans (hb1.mono (by simp))
 have hc1 : ∀ a v,W0.cell? a = some v -> w1.cell? a = some v := fun a v hv => (World.cell?_of_block (hb01.block a.block (World.block_lt_of_cell? W0 a hv))).trans hv
 have d0 := hc1 _ _ c0;have d1 := hc1 _ _ hpc;have d7 := hc1 _ _ c7;have h1 := H0.out.2.2.1.below hb01
 have hsl := fun W => qb6 (A := L.Aa) (n := S.all.length) (cap := L.ca) qa0 (k := i) (by omega) W
 have hSW : ∀ W,Below w1.heap.size w1 W -> (fun w' : World => w'.cell? ⟨L.g,0,none⟩ = some (.slice (some ⟨b,off,none⟩) S.n L.cr) /\ w'.cell? ⟨b,off + k,none⟩ = some (ptrV (L.ps k)) /\ w'.cell? ⟨L.g,7,none⟩ = some (.slice L.Aa S.all.length L.ca)) W := fun W hW => by
  have hc : ∀ a v,w1.cell? a = some v -> W.cell? a = some v := fun a v hv => (World.cell?_of_block (hW.block a.block (World.block_lt_of_cell? w1 a hv))).trans hv
  exact ⟨hc _ _ d0,hc _ _ d1,hc _ _ d7⟩
 have hlt2 : (S.all.take i).length = i := by rw [List.length_take]; omega
 have hdP := fun W (hW : Below w1.heap.size w1 W) => qbU (w := W) (S.all.take i) ((h1.front hil).below hW nlq) (by omega) (fun e he => H0.out.2.2.2.2.2.2.1 e (List.mem_of_mem_take he))
 rw [hlt2] at hdP
 have hCm := fun W (hW : Below w1.heap.size w1 W) (D : Option Addr) (n dc : Nat) (d : List UInt8) (hD : Lies W D n dc d) (hz : ∀ g o,D = some ⟨g,o,none⟩ -> g < W.heap.size /\ lab g = 0) => fun hc => qh.compactC (N1 := N1) (ok := true) (h1.below hW) hkn H0.out.2.2.2.1 H0.out.2.2.2.2.2.1 hl (i : Int) D n dc d hD hz hc
 have hCm := fun W hW D n dc hD hz => hCm W hW D n dc _ hD hz H0.out.2.2.2.2.1
 have hlim : ∀ b,w1.heap.size <= b -> lab b = 0 := h1.lim;have HS := hdq4 hSW hdP hCm hlim;have H1 := hdq2 h1 hb01;clear hSW hdP hCm hlim h1 hT hb1 hb01 hc1 x0 x1 x2 x3 c0 hpc c7 hlt2 d0 d1
 go_wp2_with fail
 clear d7;refine wp_region_held_drew ⟨(fun w' : World => w'.cell? ⟨L.g,0,none⟩ = some (.slice (some ⟨b,off,none⟩) S.n L.cr) /\ w'.cell? ⟨b,off + k,none⟩ = some (ptrV (L.ps k)) /\ w'.cell? ⟨L.g,7,none⟩ = some (.slice L.Aa S.all.length L.ca)),[15]⟩ (by kernel_rfl) (HS.out.1 _ bbq) (fun hHeld => ?_);refine lsq 17 ?_;refine puq 0 ?_;refine puq 1 ?_;refine puq 2 ?_;refine tvq 3 [5,6] ?_;refine puq 4 ?_;refine puq 5 ?_;refine tkq 6 ?_;refine puq 7 ?_;refine puq 8 ?_;refine puq 9 ?_;refine puq 10 ?_;refine tvq 11 [13,14] ?_;refine puq 12 ?_;refine puq 13 ?_;refine rdq1 14 fun KK hK => ?_;go_simp;refine (HS.out.2.1 _ bbq).mono ?_;rintro e5 w5 ⟨g5,c5,rfl,hl5,hg5,hb5⟩;have hb15 : Below w1.heap.size w1 w5 := (show Below w1.heap.size w1 _ from bbq).trans (hb5.mono (by simp))
 have hz5 : ∀ g o,(some ⟨g5,0,none⟩ : Option Addr) = some ⟨g,o,none⟩ -> g < w5.heap.size /\ lab g = 0 := fun g o e => by
  injection e with e;injection e with e1;subst e1;exact ⟨hl5.2.2.2 (by omega) |>.elim fun g' h => h.elim fun o' h => by have h1 := h.1; injection h1 with h1; injection h1 with h1; have h2 := h.2.1; omega,HS.out.2.2.2 _ (by simpa using hg5)⟩
 refine hK.out _ _ (HS.out.1 _ hb15) ?_;clear hK KK hHeld;intro hHeld
 try simp only [lpq]
 refine ltq 15 fun KK hK => ?_;go_simp;refine (HS.out.2.2.1 _ hb15 (some ⟨g5,0,none⟩) 4 c5 hl5 hz5).mono ?_;rintro e w6 ⟨rfl,lab6,h6,t6⟩;refine hK.out _ _ ?_;clear hK KK
 try simp only [lpq]
 refine plq 16 ?_;refine dnq ?_;obtain ⟨b6,off6,eA6,d1,hpl6,hpn6⟩ := h6.ptr hkn;dsimp only at hpn6 d1;have d0 := qb h6.row 0 _ rfl;rw [show (simC { S with r := Sim.upd S.r k N1 } L)[0] = .slice L.Ar S.n L.cr from rfl,eA6] at d0;have d2 := qb h6.row 2 _ rfl;have d3 := qb h6.row 3 _ rfl;obtain ⟨gs,os,es,_,hcs,hfs⟩ := h6.s.sp.at_ (by omega) k hkn;obtain ⟨gl,ol,el,_,hcl,hfl⟩ := h6.l.sp.at_ (by omega) k hkn;rw [show (simC { S with r := Sim.upd S.r k N1 } L)[2] = .slice L.As S.n L.cs from rfl,es] at d2;rw [show (simC { S with r := Sim.upd S.r k N1 } L)[3] = .slice L.Al S.n L.cl from rfl,el] at d3;have hcap2 : S.n <= L.cs := h6.s.sp.2.1;have hcap3 : S.n <= L.cl := h6.l.sp.2.1;dsimp only at hcs hcl
 have hln : (qac S.sn L.sE L.sc S.n).length = S.n * 3 := by unfold qac; rw [qa2 _ 3 (fun _ => rfl)]
 obtain ⟨u0,y0⟩ : ∃ u0,w6.cell? ⟨gs,os + k * 3,none⟩ = some u0 := ⟨_,hcs 0 (by omega) _ (by rw [Nat.add_zero]; exact List.getElem?_eq_getElem (by omega))⟩;obtain ⟨u1,y1⟩ : ∃ u1,w6.cell? ⟨gs,os + k * 3 + 1,none⟩ = some u1 := ⟨_,hcs 1 (by omega) _ (List.getElem?_eq_getElem (by omega))⟩;obtain ⟨u2,y2⟩ : ∃ u2,w6.cell? ⟨gs,os + k * 3 + 2,none⟩ = some u2 := ⟨_,hcs 2 (by omega) _ (List.getElem?_eq_getElem (by omega))⟩
 obtain ⟨u5,y5⟩ : ∃ u5,w6.cell? ⟨gl,ol + k,none⟩ = some u5 := ⟨_,by
  have := hcl 0 (by omega) _ (List.getElem?_eq_getElem (by unfold logs; simp [hkn]))
  simpa using this⟩
 have hSWx : ∀ W,Below w6.heap.size w6 W -> (fun w' : World => w'.cell? ⟨L.g,0,none⟩ = some (.slice (some ⟨b6,off6,none⟩) S.n L.cr) /\ w'.cell? ⟨b6,off6 + k,none⟩ = some (ptrV (L.ps k)) /\ w'.cell? ⟨L.g,2,none⟩ = some (.slice (some ⟨gs,os,none⟩) S.n L.cs) /\ w'.cell? ⟨L.g,3,none⟩ = some (.slice (some ⟨gl,ol,none⟩) S.n L.cl)) W := fun W hW => by
  have hc : ∀ a v,w6.cell? a = some v -> W.cell? a = some v := fun a v hv => (World.cell?_of_block (hW.block a.block (World.block_lt_of_cell? w6 a hv))).trans hv
  exact ⟨hc _ _ d0,hc _ _ d1,hc _ _ d2,hc _ _ d3⟩
 have hsd1 : N1.sn.d.length <= 50000 := by have h2 := H.out.1.sd; simpa only [qm] using h2
 have hg1 : Good N1.lg := by have h2 := H.out.1.good; simpa only [qm] using h2
 have hl1 : N1.lg.l.length <= 1000000 := by have h2 := H.out.1.len; simp only [qm] at h2; omega
 have hSn := fun W (hW : Below w6.heap.size w6 W) => qh.snapC (h6.below hW) hkn (N := N1) (qm _ _ _) hsd1
 have hEn := fun W (hW : Below w6.heap.size w6 W) => qh.entriesC (h6.below hW) hkn (N := N1) (qm _ _ _) hg1 hl1 ((i : Int) + 1) 1099511627776 ⟨by omega,by omega⟩ ⟨by decide,by decide⟩
 have z1 : IntKind.i64.wrap ((i : Int) + 1) = (i : Int) + 1 := IntWalk.i64_in _ (by omega);obtain ⟨curs,hcurs⟩ := h6.s.sp.block ⟨os,es⟩;obtain ⟨curl,hcurl⟩ := h6.l.sp.block ⟨ol,el⟩
 have hY : ∀ W,Below w6.heap.size w6 W -> (W.cell? ⟨gs,os + k * 3,none⟩ = some u0 /\ W.frozen? ⟨gs,os + k * 3,none⟩ = false) /\ (W.cell? ⟨gs,os + k * 3 + 1,none⟩ = some u1 /\ W.frozen? ⟨gs,os + k * 3 + 1,none⟩ = false) /\ (W.cell? ⟨gs,os + k * 3 + 2,none⟩ = some u2 /\ W.frozen? ⟨gs,os + k * 3 + 2,none⟩ = false) := fun W hW => by
  have e1 := hW.block gs (hlt hcurs);exact ⟨⟨(World.cell?_of_block e1).trans y0,frozen_of_row W gs _ curs _ (e1.trans hcurs)⟩,⟨(World.cell?_of_block e1).trans y1,frozen_of_row W gs _ curs _ (e1.trans hcurs)⟩,⟨(World.cell?_of_block e1).trans y2,frozen_of_row W gs _ curs _ (e1.trans hcurs)⟩⟩
 have hY5 : ∀ W : World,W.heap[gl]? = w6.heap[gl]? -> W.cell? ⟨gl,ol + k,none⟩ = some u5 /\ W.frozen? ⟨gl,ol + k,none⟩ = false := fun W e1 => ⟨(World.cell?_of_block e1).trans y5,frozen_of_row W gl _ curl _ (e1.trans hcurl)⟩;have hgl5 : lab6 gl = 5 := h6.l.lb gl ⟨ol,el⟩;have HQ := hdq5 hSWx hSn hEn hY hY5;have H6 := hdq6 h6 (Turn.onto (fun b hb => H0.out.1.lim b (Nat.le_trans H0.out.2.1.size hb)) H1.out.2 hb15 t6 (by omega)) es el (hlt hcurl) hgl5;clear h6 t6 hl5 hz5 hb5 hb15 hg5 HS hSWx hSn hEn hY hY5 es el hcurs hcurl hgl5 hcs hfs hcl hfl hln y0 y1 y2 y5 eA6 d0 d1 d2 d3 hsd1 hg1
 go_wp2_with fail
 refine wp_region_held_drew ⟨(fun w' : World => w'.cell? ⟨L.g,0,none⟩ = some (.slice (some ⟨b6,off6,none⟩) S.n L.cr) /\ w'.cell? ⟨b6,off6 + k,none⟩ = some (ptrV (L.ps k)) /\ w'.cell? ⟨L.g,2,none⟩ = some (.slice (some ⟨gs,os,none⟩) S.n L.cs) /\ w'.cell? ⟨L.g,3,none⟩ = some (.slice (some ⟨gl,ol,none⟩) S.n L.cl)),[29,31]⟩ (by kernel_rfl) (HQ.out.1 _ bbq) (fun hHeld => ?_);refine lsq 32 ?_;refine puq 0 ?_;refine puq 1 ?_;refine puq 2 ?_;refine tkq 3 ?_;refine puq 4 ?_;refine puq 5 ?_;refine puq 6 ?_;refine puq 7 ?_;refine tkq 8 ?_;refine puq 9 ?_;refine puq 10 ?_;refine puq 11 ?_;refine puq 12 ?_;refine tkq 13 ?_;refine puq 14 ?_;refine puq 15 ?_;refine tkq 16 ?_;refine puq 18 ?_;refine puq 19 ?_;refine puq 20 ?_;refine tkq 21 ?_;refine puq 22 ?_;refine puq 23 ?_;refine tkq 24 ?_;refine puq 25 ?_;refine puq 26 ?_;refine rdq1 17 fun KK hK => ?_;go_simp;refine (HQ.out.2.1 _ bbq).mono ?_;rintro e7 w7 ⟨E,cE,rfl,hl7,hE7,hb7⟩;have hb17 : Below w6.heap.size w6 w7 := (show Below w6.heap.size w6 _ from bbq).trans (hb7.mono (by simp));refine hK.out _ _ (HQ.out.1 _ hb17) ?_;clear hK KK hHeld;intro hHeld
 try simp only [lpq]
 refine rdq1 27 fun KK hK => ?_;go_simp;refine (HQ.out.2.2.1 _ hb17).mono ?_;rintro e8 w8 ⟨A8,c8,rfl,hE8,hb8⟩;have hb18 : Below w6.heap.size w6 w8 := hb17.trans (hb8.mono hb17.size);refine hK.out _ _ (HQ.out.1 _ hb18) ?_;clear hK KK hHeld;intro hHeld
 try simp only [lpq]
 refine puq 28 ?_;obtain ⟨⟨y0,f0⟩,⟨y1,f1⟩,⟨y2,f2⟩⟩ := HQ.out.2.2.2.1 w8 hb18;refine ltq 29 fun KK hK => ?_;go_simp;refine hK.out _ _ ?_;clear hK KK
 try simp only [lpq]
 obtain ⟨z1,z2⟩ := (H6.out.1.below hb18).snapPut hkn H6.out.2.2.1 N1.sn E cE (hl7.below hb8 nlq) (fun _ g o e => H6.out.1.lim g (by have := hE7 g ⟨o,e⟩; simpa using this));obtain ⟨W10,hW10⟩ := exq ((((w8.setCell ⟨gs,os + k * 3,none⟩ (.int .i64 N1.sn.i)).setCell ⟨gs,os + k * 3 + 1,none⟩ (.int .i64 N1.sn.t)).setCell ⟨gs,os + k * 3 + 2,none⟩ (.slice E N1.sn.d.length cE)));rw [hW10] at z1 z2 ⊢;have hz10 : W10.heap[gl]? = w6.heap[gl]? := (z2.same gl (by have := H6.out.2.2.2.2; have := hb18.size; omega) (by rw [H6.out.2.2.2.2.2]; omega)).trans (hb18.block _ H6.out.2.2.2.2.1);obtain ⟨y5,f5⟩ := HQ.out.2.2.2.2 W10 hz10;clear y0 y1 y2 f0 f1 f2 hW10 hz10;refine plq 30 ?_;refine ltq 31 fun KK hK => ?_;go_simp;refine hK.out _ _ ?_;clear hK KK
 try simp only [lpq]
 refine dnq ?_;have hA : Ents W10 (fun b => lab6 b = 0) A8 (N1.part ((i : Int) + 1) 1099511627776).length c8 (N1.part ((i : Int) + 1) 1099511627776) := (hE8.mono fun b hb => H6.out.1.lim b (by have := hb17.size; omega)).moved z2 (by omega);obtain ⟨z3,z4⟩ := z1.logPut hkn H6.out.2.2.2.1 (N1.part ((i : Int) + 1) 1099511627776) A8 c8 hA;obtain ⟨W11,hW11⟩ : ∃ W11,W10.setCell ⟨gl,ol + k,none⟩ (.slice A8 (N1.part ((i : Int) + 1) 1099511627776).length c8) = W11 := ⟨_,rfl⟩;rw [hW11] at z3 z4 ⊢;have hL := qE z3 k H.out.1 H.out.2;dsimp only at hL;have H3 := Lib.hid ((H6.out.2.1.trans ((Turn.below hb18 H6.out.1.lim).trans (z2.wide (J' := fun i => i ≠ 0) fun i e => by omega) (by decide)) (by decide)).trans (z4.wide fun i e => by omega) (by decide));clear z1 z2 z3 z4 hA hW11 y5 f5 hE8 hb8 hb18 hb17 hb7 hE7 hl7 HQ
 go_wp2_with fail
 refine hL.mono ?_;rintro e w2 ⟨rfl,Ww⟩;have H2 := Lib.hid (Went.after H0.out.1 H0.out.2.1 (Went.then rfl H3.out Ww));clear hL Ww;go_wp2;go_ret;exact ⟨rfl,H2.out⟩
end RegW
end Go.Proofs.YtmiijlecfiddmaaGreat
