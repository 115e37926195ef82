/- The program's node takes a step. -/
import Derived.Test.YtmiijlecfiddmaaGreatNNM01
import Derived.Test.YtmiijlecfiddmaaGreatNNM20
import Derived.Test.YtmiijlecfiddmaaGreatNNM22
set_option linter.unusedVariables false
set_option linter.unusedSimpArgs false
set_option maxRecDepth 100000
set_option maxHeartbeats 1600000
namespace Go.Proofs.YtmiijlecfiddmaaGreat
open Go.RowKit Go.Shelf
attribute [local go_sem] Oper.semAt_some
variable {w : World} {p : Nat} {N : Node} {Z : Nat -> Prop} {q : Ptrs} {s : Nat} {xs : List MLay} {K : Nat -> Prop}
structure Fair (m : Msg) : Prop where
 k : 1 <= m.k /\ m.k <= 7
 f : 0 <= m.f /\ m.f <= 2
 ne : m.f ≠ m.o
 t : 1 <= m.t /\ m.t <= 1099511627776
 i : 0 <= m.i /\ m.i <= 1099511627776
 es : m.es.length <= 4
 whole : m.k = 7 -> RL.base m.s.i m.s.t = true /\ m.s.d.length <= 50000
theorem qdV {m : Msg} (h : rightM m = true) : Fair m := by
 unfold rightM at h;simp only [Bool.and_eq_true] at h;obtain ⟨h1,⟨h2,h3⟩,⟨h4,h5⟩,h6,h7⟩ := h;obtain ⟨a1,a2,a3,a4,a5,a6,a7,a8⟩ := (qaM _ _ _ _).1 h1;unfold qb8 at h2;simp only [Bool.and_eq_true,qbs] at h2;refine ⟨⟨a1,a2⟩,⟨a3,a4⟩,a7,⟨a8,h2.1.2⟩,h2.2.1,of_decide_eq_true h4,fun hk => ?_⟩;unfold qbt at h7;rw [hk] at h7;simp only [ne_eq,not_true_eq_false,decide_false,Bool.false_or,Bool.and_eq_true,decide_eq_true_eq] at h7;obtain ⟨b1,b2⟩ := h7;unfold qak at b1;rw [if_neg (by omega)] at b1;simp only [Bool.and_eq_true,numB,decide_eq_true_eq] at b1;refine ⟨?_,b1.2⟩;unfold RL.base;simp only [Bool.and_eq_true,decide_eq_true_eq];omega
theorem qdz {N : Node} {s : Nat} (hg : Good N.lg) (h : frel N.lg s) (d : List UInt8) : frel (N.grown d) s := by
 unfold Node.grown RL.add
 split
 · exact qd6 hg h _
 · exact h
theorem qgw (N : Node) : (N.rise).lg = N.grown [] := by
 unfold Node.rise;dsimp only;obtain ⟨c,hc⟩ := qbb ({ N with ro := 3,ld := N.id,wk := 0,cx := 0,rd := [],ma := Node.zeroF,ac := Node.zeroF,nx := fun k => if k < N.n /\ k ≠ N.id then N.lg.lastI + 1 else 0,lg := N.grown [] } : Node);refine Eq.trans (congrArg (fun M : Node => M.sendAll.lg) hc) ?_;unfold Node.sendAll;obtain ⟨ls,_,e⟩ := qU ({ N with ro := 3,ld := N.id,wk := 0,cx := 0,rd := [],ma := Node.zeroF,ac := Node.zeroF,nx := fun k => if k < N.n /\ k ≠ N.id then N.lg.lastI + 1 else 0,lg := N.grown [],cm := c } : Node) ({ N with ro := 3,ld := N.id,wk := 0,cx := 0,rd := [],ma := Node.zeroF,ac := Node.zeroF,nx := fun k => if k < N.n /\ k ≠ N.id then N.lg.lastI + 1 else 0,lg := N.grown [],cm := c } : Node).others;exact congrArg Node.lg e
theorem qib (N : Node) (k t : Int) : (N.ask k t).lg = N.lg := by
 obtain ⟨ls,_,e⟩ := qdf k t N N.others;show (N.others.foldl (qaG k t) N).lg = N.lg;rw [e]
theorem qfx {N : Node} {s : Nat} (hg : Good N.lg) (h : frel N.lg s) : frel (N.run).lg s := by
 unfold Node.run;dsimp only
 split
 · rw [qgw];exact qdz (N := ({ N with ht := N.ht + 1,hv := N.id } : Node).count 2) hg h []
 · rw [qib];exact h
theorem qeh {N : Node} {s : Nat} (hg : Good N.lg) (h : frel N.lg s) (m : Msg) : frel (N.said m).lg s := by
 unfold Node.said
 split
 · exact h
 · split
   · exact h
   · dsimp only;generalize (if m.b = true then (1 : Int) else 2) = v
     split
     · split
       · exact qfx (N := { N with sy := Node.put N.sy m.f.toNat v }) hg h
       · rw [qgw];exact qdz (N := { N with sy := Node.put N.sy m.f.toNat v }) hg h []
     · split
       · exact h
       · exact h
theorem qkG (N : Node) (m : Msg) : (N.poll m).lg = N.lg := by unfold Node.poll; split <;> rfl
theorem qkH (N : Node) (m : Msg) : (N.vote m).lg = N.lg := by unfold Node.vote; split <;> rfl
theorem qkI (N : Node) : (N.tell).lg = N.lg := rfl
theorem qjB (N : Node) (m : Msg) : (N.apped m).lg = N.lg := by
 by_cases hro : N.ro = 3
 · rw [qcg hro,qkI];obtain ⟨g,hg⟩ := qa7 N m.f.toNat m.x;rw [hg]
   split
   · rw [qam]
     obtain ⟨c,ls,e⟩ := qaW { N with ac := g,ma := Node.put N.ma m.f.toNat (max (N.ma m.f.toNat) (min m.i N.lg.lastI)),nx := Node.put N.nx m.f.toNat (max (N.nx m.f.toNat) (max (N.ma m.f.toNat) (min m.i N.lg.lastI) + 1)) } m.f.toNat
     rw [e]
   · unfold refused
     obtain ⟨x,e⟩ := qbY { N with ac := g,nx := Node.put N.nx m.f.toNat (max (min (N.nx m.f.toNat - 1) (min m.i N.lg.lastI + 1)) (N.ma m.f.toNat + 1)) } m.f.toNat
     rw [e]
 · unfold Node.apped;rw [if_pos hro]
theorem qdW (h : RfAt w p N Z q s xs K) (hZ : ∀ b,Z b -> b < w.heap.size) (a : Able N) (m : Msg) (A : Option Addr) (cA : Nat) (E : Option Addr) (cE : Nat) (hf : 0 <= m.f /\ m.f < 3) (hmi : 0 <= m.i) :
 Calls Tryz.prog 82 #[ptrV p,msgV m A cA E cE] w fun e w' => e = .returned (.tuple #[]) /\ Turned w w' p (N.apped m) Z q s := by
 by_cases hro : N.ro = 3
 · exact qdU h hZ a m A cA E cE hf hro hmi
 · exact qeI h m A cA E cE hro
def heardN (N : Node) (m : Msg) : Node := if m.k = 1 then N.poll m else if m.k = 2 \/ m.k = 4 then N.said m else if m.k = 3 then N.vote m else if m.k = 5 then N.app m else if m.k = 6 then N.apped m else N.whole m
theorem qei (h : RfAt w p N Z q s xs K) (hZ : ∀ b,Z b -> b < w.heap.size) (a : Able N) (m : Msg) (A : Option Addr) (cA : Nat) (E : Option Addr) (cE : Nat) (hM : qo w Z m A cA E cE) (fm : Fair m) (hfn : m.f < N.n) (ho : m.o = N.id) (hmt : m.k ≠ 1 -> m.k ≠ 2 -> m.t = N.ht) :
 Calls Tryz.prog 44 #[ptrV p,msgV m A cA E cE] w fun e w' => e = .returned (.tuple #[]) /\ qaD w w' p N (heardN N m) Z q s := by
 have hn2 : 2 <= N.n := by have := fm.ne; have := fm.f; have := a.n; omega
 obtain ⟨X,hX⟩ := exq (heardN N m);rw [hX];unfold heardN at hX;obtain ⟨mk,mf,mo,mt,mi,ml,mc,mx,mb,mes,msn⟩ := m;dsimp only at hfn ho hmt hX;have hk := fm.k;dsimp only at hk
 have hml : N.ms.length < 999990 := by have := a.ms; omega
 have hll : N.lg.l.length <= 1000000 := by have := a.len; omega
 obtain rfl | rfl | rfl | rfl | rfl | rfl | rfl : mk = 1 \/ mk = 2 \/ mk = 3 \/ mk = 4 \/ mk = 5 \/ mk = 6 \/ mk = 7 := by omega
 · obtain ⟨W1,hW1⟩ := exq (w.alloc (.cells #[.int .i64 1, .int .i64 mf, .int .i64 mo, .int .i64 mt, .int .i64 mi, .int .i64 ml, .int .i64 mc, .int .i64 mx, .bool mb, .slice A mes.length cA, .int .i64 msn.i, .int .i64 msn.t, .slice E msn.d.length cE] 51))
   have hb1 : Below w.heap.size w W1 := by rw [<- hW1]; exact blq.alloc nlq _
   have hrow : W1.heap[w.heap.size]? = some (.cells #[.int .i64 1, .int .i64 mf, .int .i64 mo, .int .i64 mt, .int .i64 mi, .int .i64 ml, .int .i64 mc, .int .i64 mx, .bool mb, .slice A mes.length cA, .int .i64 msn.i, .int .i64 msn.t, .slice E msn.d.length cE] 51) := by rw [<- hW1]; exact heap_alloc_new w _
   have h1 := h.below hb1
   have hZ1 : ∀ b,Z b -> b < W1.heap.size := fun b hb => Nat.lt_of_lt_of_le (hZ b hb) hb1.size
   have hC := qeG h1 hZ1 hml hll a.ht.1 _ A cA E cE fm.f.1;obtain ⟨⟨r0,r1,r2,r3,r4,r5,r6,r7,r8,r9,r10,r11,r12⟩,_⟩ := qu hrow;have hkp := keeps_below (Z := Z) hb1 nlq;have hgd := a.good;have hX : N.poll ⟨1,mf,mo,mt,mi,ml,mc,mx,mb,mes,msn⟩ = X := hX;have HK := hdq3 hkp hX hgd;clear h hZ hM fm hfn ho hmt hn2 hX hk hml hll hb1 h1 hZ1 hkp hgd a hrow
   go_enter Tryz.func44,Tryz.ntmps44
   go_wp2_with fail
   refine hC.mono ?_;rintro e w2 ⟨rfl,hT⟩;have HT := Lib.hid hT;clear hT hC;go_wp2;refine bpq ?_;obtain ⟨hkp,hX,hgd⟩ := HK.out;rw [<- hX];exact ⟨rfl,s,HT.out.back rfl hkp,fun hs => by rw [qkG]; exact hs⟩
 · obtain ⟨W1,hW1⟩ := exq (w.alloc (.cells #[.int .i64 2, .int .i64 mf, .int .i64 mo, .int .i64 mt, .int .i64 mi, .int .i64 ml, .int .i64 mc, .int .i64 mx, .bool mb, .slice A mes.length cA, .int .i64 msn.i, .int .i64 msn.t, .slice E msn.d.length cE] 51))
   have hb1 : Below w.heap.size w W1 := by rw [<- hW1]; exact blq.alloc nlq _
   have hrow : W1.heap[w.heap.size]? = some (.cells #[.int .i64 2, .int .i64 mf, .int .i64 mo, .int .i64 mt, .int .i64 mi, .int .i64 ml, .int .i64 mc, .int .i64 mx, .bool mb, .slice A mes.length cA, .int .i64 msn.i, .int .i64 msn.t, .slice E msn.d.length cE] 51) := by rw [<- hW1]; exact heap_alloc_new w _
   have h1 := h.below hb1
   have hZ1 : ∀ b,Z b -> b < W1.heap.size := fun b hb => Nat.lt_of_lt_of_le (hZ b hb) hb1.size
   have hC := qdy h1 hZ1 a _ A cA E cE rfl ⟨fm.f.1,hfn⟩ hn2;obtain ⟨⟨r0,r1,r2,r3,r4,r5,r6,r7,r8,r9,r10,r11,r12⟩,_⟩ := qu hrow;have hkp := keeps_below (Z := Z) hb1 nlq;have hgd := a.good;have hX : N.said ⟨2,mf,mo,mt,mi,ml,mc,mx,mb,mes,msn⟩ = X := hX;have HK := hdq3 hkp hX hgd;clear h hZ hM fm hfn ho hmt hn2 hX hk hml hll hb1 h1 hZ1 hkp hgd a hrow
   go_enter Tryz.func44,Tryz.ntmps44
   go_wp2_with fail
   refine hC.mono ?_;rintro e w2 ⟨rfl,hT⟩;have HT := Lib.hid hT;clear hT hC;go_wp2;refine bpq ?_;obtain ⟨hkp,hX,hgd⟩ := HK.out;rw [<- hX];exact ⟨rfl,s,HT.out.back rfl hkp,fun hs => qeh hgd hs _⟩
 · obtain ⟨W1,hW1⟩ := exq (w.alloc (.cells #[.int .i64 3, .int .i64 mf, .int .i64 mo, .int .i64 mt, .int .i64 mi, .int .i64 ml, .int .i64 mc, .int .i64 mx, .bool mb, .slice A mes.length cA, .int .i64 msn.i, .int .i64 msn.t, .slice E msn.d.length cE] 51))
   have hb1 : Below w.heap.size w W1 := by rw [<- hW1]; exact blq.alloc nlq _
   have hrow : W1.heap[w.heap.size]? = some (.cells #[.int .i64 3, .int .i64 mf, .int .i64 mo, .int .i64 mt, .int .i64 mi, .int .i64 ml, .int .i64 mc, .int .i64 mx, .bool mb, .slice A mes.length cA, .int .i64 msn.i, .int .i64 msn.t, .slice E msn.d.length cE] 51) := by rw [<- hW1]; exact heap_alloc_new w _
   have h1 := h.below hb1
   have hZ1 : ∀ b,Z b -> b < W1.heap.size := fun b hb => Nat.lt_of_lt_of_le (hZ b hb) hb1.size
   have hC := qeH h1 hZ1 hml hll _ A cA E cE fm.f.1;obtain ⟨⟨r0,r1,r2,r3,r4,r5,r6,r7,r8,r9,r10,r11,r12⟩,_⟩ := qu hrow;have hkp := keeps_below (Z := Z) hb1 nlq;have hgd := a.good;have hX : N.vote ⟨3,mf,mo,mt,mi,ml,mc,mx,mb,mes,msn⟩ = X := hX;have HK := hdq3 hkp hX hgd;clear h hZ hM fm hfn ho hmt hn2 hX hk hml hll hb1 h1 hZ1 hkp hgd a hrow
   go_enter Tryz.func44,Tryz.ntmps44
   go_wp2_with fail
   refine hC.mono ?_;rintro e w2 ⟨rfl,hT⟩;have HT := Lib.hid hT;clear hT hC;go_wp2;refine bpq ?_;obtain ⟨hkp,hX,hgd⟩ := HK.out;rw [<- hX];exact ⟨rfl,s,HT.out.back rfl hkp,fun hs => by rw [qkH]; exact hs⟩
 · obtain ⟨W1,hW1⟩ := exq (w.alloc (.cells #[.int .i64 4, .int .i64 mf, .int .i64 mo, .int .i64 mt, .int .i64 mi, .int .i64 ml, .int .i64 mc, .int .i64 mx, .bool mb, .slice A mes.length cA, .int .i64 msn.i, .int .i64 msn.t, .slice E msn.d.length cE] 51))
   have hb1 : Below w.heap.size w W1 := by rw [<- hW1]; exact blq.alloc nlq _
   have hrow : W1.heap[w.heap.size]? = some (.cells #[.int .i64 4, .int .i64 mf, .int .i64 mo, .int .i64 mt, .int .i64 mi, .int .i64 ml, .int .i64 mc, .int .i64 mx, .bool mb, .slice A mes.length cA, .int .i64 msn.i, .int .i64 msn.t, .slice E msn.d.length cE] 51) := by rw [<- hW1]; exact heap_alloc_new w _
   have h1 := h.below hb1
   have hZ1 : ∀ b,Z b -> b < W1.heap.size := fun b hb => Nat.lt_of_lt_of_le (hZ b hb) hb1.size
   have hC := qdS h1 hZ1 a _ A cA E cE rfl ⟨fm.f.1,hfn⟩;obtain ⟨⟨r0,r1,r2,r3,r4,r5,r6,r7,r8,r9,r10,r11,r12⟩,_⟩ := qu hrow;have hkp := keeps_below (Z := Z) hb1 nlq;have hgd := a.good;have hX : N.said ⟨4,mf,mo,mt,mi,ml,mc,mx,mb,mes,msn⟩ = X := hX;have HK := hdq3 hkp hX hgd;clear h hZ hM fm hfn ho hmt hn2 hX hk hml hll hb1 h1 hZ1 hkp hgd a hrow
   go_enter Tryz.func44,Tryz.ntmps44
   go_wp2_with fail
   refine hC.mono ?_;rintro e w2 ⟨rfl,hT⟩;have HT := Lib.hid hT;clear hT hC;go_wp2;refine bpq ?_;obtain ⟨hkp,hX,hgd⟩ := HK.out;rw [<- hX];exact ⟨rfl,s,HT.out.back rfl hkp,fun hs => qeh hgd hs _⟩
 · obtain ⟨W1,hW1⟩ := exq (w.alloc (.cells #[.int .i64 5, .int .i64 mf, .int .i64 mo, .int .i64 mt, .int .i64 mi, .int .i64 ml, .int .i64 mc, .int .i64 mx, .bool mb, .slice A mes.length cA, .int .i64 msn.i, .int .i64 msn.t, .slice E msn.d.length cE] 51))
   have hb1 : Below w.heap.size w W1 := by rw [<- hW1]; exact blq.alloc nlq _
   have hrow : W1.heap[w.heap.size]? = some (.cells #[.int .i64 5, .int .i64 mf, .int .i64 mo, .int .i64 mt, .int .i64 mi, .int .i64 ml, .int .i64 mc, .int .i64 mx, .bool mb, .slice A mes.length cA, .int .i64 msn.i, .int .i64 msn.t, .slice E msn.d.length cE] 51) := by rw [<- hW1]; exact heap_alloc_new w _
   have h1 := h.below hb1
   have hZ1 : ∀ b,Z b -> b < W1.heap.size := fun b hb => Nat.lt_of_lt_of_le (hZ b hb) hb1.size
   have hC := qfr h1 hZ1 a _ A cA E cE (hM.below hb1 nlq) fm.f.1 (hmt (by decide) (by decide)) fm.i.2 fm.es;obtain ⟨⟨r0,r1,r2,r3,r4,r5,r6,r7,r8,r9,r10,r11,r12⟩,_⟩ := qu hrow;have hkp := keeps_below (Z := Z) hb1 nlq;have hgd := a.good;have hX : N.app ⟨5,mf,mo,mt,mi,ml,mc,mx,mb,mes,msn⟩ = X := hX;have HK := hdq3 hkp hX hgd;clear h hZ hM fm hfn ho hmt hn2 hX hk hml hll hb1 h1 hZ1 hkp hgd a hrow
   go_enter Tryz.func44,Tryz.ntmps44
   go_wp2_with fail
   refine hC.mono ?_;rintro e w2 ⟨rfl,hT⟩;have HT := Lib.hid hT;clear hT hC;go_wp2;refine bpq ?_;obtain ⟨hkp,hX,hgd⟩ := HK.out;rw [<- hX];obtain ⟨s1,hT,hf⟩ := HT.out;exact ⟨rfl,s1,hT.back rfl hkp,hf⟩
 · obtain ⟨W1,hW1⟩ := exq (w.alloc (.cells #[.int .i64 6, .int .i64 mf, .int .i64 mo, .int .i64 mt, .int .i64 mi, .int .i64 ml, .int .i64 mc, .int .i64 mx, .bool mb, .slice A mes.length cA, .int .i64 msn.i, .int .i64 msn.t, .slice E msn.d.length cE] 51))
   have hb1 : Below w.heap.size w W1 := by rw [<- hW1]; exact blq.alloc nlq _
   have hrow : W1.heap[w.heap.size]? = some (.cells #[.int .i64 6, .int .i64 mf, .int .i64 mo, .int .i64 mt, .int .i64 mi, .int .i64 ml, .int .i64 mc, .int .i64 mx, .bool mb, .slice A mes.length cA, .int .i64 msn.i, .int .i64 msn.t, .slice E msn.d.length cE] 51) := by rw [<- hW1]; exact heap_alloc_new w _
   have h1 := h.below hb1
   have hZ1 : ∀ b,Z b -> b < W1.heap.size := fun b hb => Nat.lt_of_lt_of_le (hZ b hb) hb1.size
   have hC := qdW h1 hZ1 a _ A cA E cE ⟨fm.f.1,by have := fm.f.2; dsimp only at this; show mf < 3; omega⟩ fm.i.1;obtain ⟨⟨r0,r1,r2,r3,r4,r5,r6,r7,r8,r9,r10,r11,r12⟩,_⟩ := qu hrow;have hkp := keeps_below (Z := Z) hb1 nlq;have hgd := a.good;have hX : N.apped ⟨6,mf,mo,mt,mi,ml,mc,mx,mb,mes,msn⟩ = X := hX;have HK := hdq3 hkp hX hgd;clear h hZ hM fm hfn ho hmt hn2 hX hk hml hll hb1 h1 hZ1 hkp hgd a hrow
   go_enter Tryz.func44,Tryz.ntmps44
   go_wp2_with fail
   refine hC.mono ?_;rintro e w2 ⟨rfl,hT⟩;have HT := Lib.hid hT;clear hT hC;go_wp2;refine bpq ?_;obtain ⟨hkp,hX,hgd⟩ := HK.out;rw [<- hX];exact ⟨rfl,s,HT.out.back rfl hkp,fun hs => by rw [qjB]; exact hs⟩
 · obtain ⟨W1,hW1⟩ := exq (w.alloc (.cells #[.int .i64 7, .int .i64 mf, .int .i64 mo, .int .i64 mt, .int .i64 mi, .int .i64 ml, .int .i64 mc, .int .i64 mx, .bool mb, .slice A mes.length cA, .int .i64 msn.i, .int .i64 msn.t, .slice E msn.d.length cE] 51))
   have hb1 : Below w.heap.size w W1 := by rw [<- hW1]; exact blq.alloc nlq _
   have hrow : W1.heap[w.heap.size]? = some (.cells #[.int .i64 7, .int .i64 mf, .int .i64 mo, .int .i64 mt, .int .i64 mi, .int .i64 ml, .int .i64 mc, .int .i64 mx, .bool mb, .slice A mes.length cA, .int .i64 msn.i, .int .i64 msn.t, .slice E msn.d.length cE] 51) := by rw [<- hW1]; exact heap_alloc_new w _
   have h1 := h.below hb1
   have hZ1 : ∀ b,Z b -> b < W1.heap.size := fun b hb => Nat.lt_of_lt_of_le (hZ b hb) hb1.size
   have hC := qdT h1 hZ1 a _ A cA E cE (hM.below hb1 nlq) fm.f.1 (hmt (by decide) (by decide)) (fm.whole rfl).1 (fm.whole rfl).2;obtain ⟨⟨r0,r1,r2,r3,r4,r5,r6,r7,r8,r9,r10,r11,r12⟩,_⟩ := qu hrow;have hkp := keeps_below (Z := Z) hb1 nlq;have hgd := a.good;have hX : N.whole ⟨7,mf,mo,mt,mi,ml,mc,mx,mb,mes,msn⟩ = X := hX;have HK := hdq3 hkp hX hgd;clear h hZ hM fm hfn ho hmt hn2 hX hk hml hll hb1 h1 hZ1 hkp hgd a hrow
   go_enter Tryz.func44,Tryz.ntmps44
   go_wp2_with fail
   refine hC.mono ?_;rintro e w2 ⟨rfl,hT⟩;have HT := Lib.hid hT;clear hT hC;go_wp2;refine bpq ?_;obtain ⟨hkp,hX,hgd⟩ := HK.out;rw [<- hX];obtain ⟨s1,hT,hf⟩ := HT.out;exact ⟨rfl,s1,hT.back rfl hkp,hf⟩
end Go.Proofs.YtmiijlecfiddmaaGreat
