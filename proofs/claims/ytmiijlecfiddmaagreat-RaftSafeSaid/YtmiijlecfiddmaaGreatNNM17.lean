/- The program's node hears of those who were polled, who voted. -/
import Derived.Test.YtmiijlecfiddmaaGreatNNM01
import Derived.Test.YtmiijlecfiddmaaGreatNNM16
set_option linter.unusedVariables false
set_option linter.unusedSimpArgs false
set_option maxRecDepth 100000
set_option maxHeartbeats 1600000
namespace Go.Proofs.YtmiijlecfiddmaaGreat
open Go.RowKit Go.Shelf
attribute [local go_sem] Oper.semAt_some
variable {w : World} {p : Nat} {N : Node} {Z : Nat -> Prop} {q : Ptrs} {s : Nat} {xs : List MLay} {K : Nat -> Prop}
structure Able (N : Node) : Prop where
 n : N.n <= 3 /\ N.id < N.n
 ms : N.ms.length <= 900000
 len : N.lg.l.length <= 300000
 good : Good N.lg
 sd : N.sn.d.length <= 50000
 idle : N.ro ≠ 3 -> N.cx = 0 /\ N.rd = [] /\ N.nx = Node.zeroF /\ N.ma = Node.zeroF /\ N.ac = Node.zeroF
 ht : 0 <= N.ht /\ N.ht <= 1099511627776
 lt : N.lg.lastT <= N.ht
 li : N.lg.lastI < 1099511627776
 wk : 0 <= N.wk /\ N.wk <= 2199023255552
 cx : 0 <= N.cx /\ N.cx <= 2199023255552
 cm : 0 <= N.cm /\ N.cm <= 2199023255552
 nx : ∀ j,0 <= N.nx j /\ N.nx j <= 2199023255552
 ma : ∀ j,0 <= N.ma j /\ N.ma j <= 2199023255552
 td : N.td.length + N.rd.length <= 800000
 up : N.ro = 2 \/ N.ro = 3 -> 1 <= N.ht
 r1 : N.ro = 1 -> N.ht < 1099511627776
theorem qjx (args : Array Value) (W : World) : Sem.run Tryz.prog (callFunc 62 args) W = .ok (.enter 62 args) W := by
 have hf := Tryz.func62
 have h1 : ¬ Tryz.f62.name = "runtime.NumGoroutine" := by
  have : (Tryz.f62.name == "runtime.NumGoroutine") = false := by kernel_rfl
  simpa using this
 obtain ⟨c,hb⟩ := Option.isSome_iff_exists.1 (show Tryz.f62.body.isSome = true by kernel_rfl)
 simp [callFunc,hf,h1,hb]
theorem qh4 (args : Array Value) (W : World) : Sem.run Tryz.prog (callFunc 91 args) W = .ok (.enter 91 args) W := by
 have hf := Tryz.func91
 have h1 : ¬ Tryz.f91.name = "runtime.NumGoroutine" := by
  have : (Tryz.f91.name == "runtime.NumGoroutine") = false := by kernel_rfl
  simpa using this
 obtain ⟨c,hb⟩ := Option.isSome_iff_exists.1 (show Tryz.f91.body.isSome = true by kernel_rfl)
 simp [callFunc,hf,h1,hb]
theorem qcE (h : RfAt w p N Z q s xs K) (hZ : ∀ b,Z b -> b < w.heap.size) (a : Able N) (hn : 2 <= N.n) (hro : N.ro = 1) (j : Nat) (hj : j < N.n) (v : Int) :
 Calls Tryz.prog 99 #[ptrV p, .int .i64 (j : Int), .int .i64 v, .func (.func 62) #[ptrV p] #[]] w fun e w' => e = .returned (.tuple #[]) /\ Turned w w' p (counted N j v (({ N with sy := Node.put N.sy j v } : Node).run)) Z q s :=
 qdx h a.n.1 j hj v _ _ (fun W => qjx _ W) fun W hW hk =>
  qfm hW (fun b hb => Nat.lt_of_lt_of_le (hZ b hb) hk.size) (by have := a.ms; show N.ms.length < 999990; omega) (by have := a.len; show N.lg.l.length <= 400000; omega) a.good a.n a.sd (a.idle (by rw [hro]; decide)) (by have := a.ht; show 0 <= N.ht /\ N.ht <= 2199023255552; omega) (fun e => absurd (show N.n = 1 from e) (by omega))
theorem qc3 (h : RfAt w p N Z q s xs K) (hZ : ∀ b,Z b -> b < w.heap.size) (a : Able N) (hro : N.ro = 2) (j : Nat) (hj : j < N.n) (v : Int) :
 Calls Tryz.prog 99 #[ptrV p, .int .i64 (j : Int), .int .i64 v, .func (.func 91) #[ptrV p] #[]] w fun e w' => e = .returned (.tuple #[]) /\ Turned w w' p (counted N j v (({ N with sy := Node.put N.sy j v } : Node).rise)) Z q s :=
 qdx h a.n.1 j hj v _ _ (fun W => qh4 _ W) fun W hW hk =>
  qee hW (fun b hb => Nat.lt_of_lt_of_le (hZ b hb) hk.size) (by have := a.ms; show N.ms.length < 999990; omega) (by have := a.len; show N.lg.l.length <= 400000; omega) a.good ⟨a.n.1,by have := a.n; show N.id < 3; omega⟩ a.sd (a.idle (by rw [hro]; decide))
   (qfn a.good (a.up (.inl hro)) a.ht.2 a.lt a.li [] (by simp))
theorem qh5 {N : Node} {m : Msg} (hk : m.k = 2) (hro : N.ro = 1) (hb : ¬ (m.b = true /\ m.t ≠ N.ht + 1)) : N.said m = counted N m.f.toNat (if m.b = true then 1 else 2) (({ N with sy := Node.put N.sy m.f.toNat (if m.b = true then 1 else 2) } : Node).run) := by
 unfold Node.said counted;rw [if_neg (by rw [hk,hro]; intro e; rcases e with e | e; exact absurd e.1 (by decide); exact e.2.elim (fun x => x rfl) hb)];dsimp only;rw [if_pos hro]
theorem qh6 {N : Node} {m : Msg} (hk : m.k = 4) (hro : N.ro = 2) : N.said m = counted N m.f.toNat (if m.b = true then 1 else 2) (({ N with sy := Node.put N.sy m.f.toNat (if m.b = true then 1 else 2) } : Node).rise) := by
 unfold Node.said counted;rw [if_neg (by rw [hk,hro]; intro e; rcases e with e | e; exact e.2 rfl; exact absurd e.1 (by decide))];dsimp only;rw [if_neg (show ¬ N.ro = 1 by rw [hro]; decide)]
theorem qdy (h : RfAt w p N Z q s xs K) (hZ : ∀ b,Z b -> b < w.heap.size) (a : Able N) (m : Msg) (A : Option Addr) (cA : Nat) (E : Option Addr) (cE : Nat) (hk : m.k = 2) (hf : 0 <= m.f /\ m.f < N.n) (hn : 2 <= N.n) :
 Calls Tryz.prog 78 #[ptrV p,msgV m A cA E cE] w fun e w' => e = .returned (.tuple #[]) /\ Turned w w' p (N.said m) Z q s := by
 obtain ⟨mk,mf,mo,mt,mi,ml,mc,mx,mb,mes,msn⟩ := m;dsimp only at hk hf;subst hk;have hp := h.lt;obtain ⟨W1,hW1⟩ := exq (w.alloc (.cells #[.int .i64 2, .int .i64 mf, .int .i64 mo, .int .i64 mt, .int .i64 mi, .int .i64 ml, .int .i64 mc, .int .i64 mx, .bool mb, .slice A mes.length cA, .int .i64 msn.i, .int .i64 msn.t, .slice E msn.d.length cE] 51))
 have hb1 : Below w.heap.size w W1 := by rw [<- hW1]; exact blq.alloc nlq _
 have hrow : W1.heap[w.heap.size]? = some (.cells #[.int .i64 2, .int .i64 mf, .int .i64 mo, .int .i64 mt, .int .i64 mi, .int .i64 ml, .int .i64 mc, .int .i64 mx, .bool mb, .slice A mes.length cA, .int .i64 msn.i, .int .i64 msn.t, .slice E msn.d.length cE] 51) := by rw [<- hW1]; exact heap_alloc_new w _
 have hsz : W1.heap.size = w.heap.size + 1 := by rw [<- hW1]; simp
 have d1 : W1.cell? ⟨w.heap.size,1,none⟩ = some (.int .i64 mf) := qb hrow 1 _ rfl;have d3 : W1.cell? ⟨w.heap.size,3,none⟩ = some (.int .i64 mt) := qb hrow 3 _ rfl;have d8 : W1.cell? ⟨w.heap.size,8,none⟩ = some (.bool mb) := qb hrow 8 _ rfl;have h1 := h.below hb1
 have hZ1 : ∀ b,Z b -> b < W1.heap.size := fun b hb => Nat.lt_of_lt_of_le (hZ b hb) hb1.size
 have hkp : qf Z w W1 := keeps_below hb1 nlq;have c10 := h1.c10;have c2 := h1.c2;have y1 : IntKind.i64.wrap (N.ht + 1) = N.ht + 1 := IntWalk.i64_in _ (by have := a.ht; omega);have hid : RfAt W1 p N Z q s xs K /\ qf Z w W1 := ⟨h1,hkp⟩
 by_cases hro : N.ro = 1
 · have e1 : (N.ro == 1) = true := beq_iff_eq.2 hro
   cases mb with
   | false =>
     have hC := qcE h1 hZ1 a hn hro mf.toNat (by omega) 2;rw [Int.toNat_of_nonneg hf.1] at hC;have hx := qh5 (m := ⟨2,mf,mo,mt,mi,ml,mc,mx,false,mes,msn⟩) rfl hro (by simp);have HX := hdq2 hx hkp;have HB := Lib.hid hrow;clear h hZ h1 hZ1 hkp hid a hx hro hf hn hb1
     go_enter Tryz.func78,Tryz.ntmps78
     go_wp2_with fail
     refine hC.mono ?_;rintro e w5 ⟨rfl,hT⟩;have HT := Lib.hid hT;clear hT hC;go_wp2;refine bpq ?_;refine ⟨rfl,?_⟩;rw [HX.out.1];exact HT.out.back rfl HX.out.2
   | true =>
     by_cases ht : mt = N.ht + 1
     · have hx := qh5 (m := ⟨2,mf,mo,mt,mi,ml,mc,mx,true,mes,msn⟩) rfl hro (fun e => e.2 ht)
       have hC := fun k => qcE (h1.below (below_drewN (Below.refl W1.heap.size _) k)) (fun b hb => Nat.lt_of_lt_of_le (hZ1 b hb) (below_drewN (Below.refl W1.heap.size W1) k).size) a hn hro mf.toNat (by omega) 1
       rw [Int.toNat_of_nonneg hf.1] at hC
       have hkk := fun k => hkp.trans (keeps_below (Z := Z) (below_drewN (Below.refl W1.heap.size W1) k) nlq)
       have e2 : (mt == N.ht + 1) = true := beq_iff_eq.2 ht;have HX := hdq2 hx hkk;have HB := Lib.hid hrow;clear h hZ h1 hZ1 hkp hid a hx hro hf hn hb1 ht hkk
       go_enter Tryz.func78,Tryz.ntmps78
       go_wp2_with fail
       go_quiet (fail)
       go_wp2_with fail
       refine (hC _).mono ?_;rintro e w5 ⟨rfl,hT⟩;have HT := Lib.hid hT;clear hT hC;go_wp2;refine bpq ?_;refine ⟨rfl,?_⟩;rw [HX.out.1];exact HT.out.back rfl (HX.out.2 _)
     · have hx : N.said ⟨2,mf,mo,mt,mi,ml,mc,mx,true,mes,msn⟩ = N := by
        unfold Node.said;exact if_pos (.inr ⟨rfl, .inr ⟨rfl,ht⟩⟩)
       have e2 : (mt == N.ht + 1) = false := beq_eq_false_iff_ne.2 ht;have e2' : (mt = N.ht + 1) = False := eq_false ht;have HX := hdq2 hx hid;have HB := Lib.hid hrow;clear h hZ h1 hZ1 hkp hid a hx hro hf hn hb1 ht
       go_enter Tryz.func78,Tryz.ntmps78
       go_wp2_with fail
       go_quiet (fail)
       go_wp2;refine bpq ?_;refine ⟨rfl,?_⟩;rw [HX.out.1];exact ⟨q,xs,K,HX.out.2.1.below (below_drewN blq _),rfl,HX.out.2.2.trans (keeps_below (below_drewN blq _) nlq)⟩
 · have e1 : (N.ro == 1) = false := beq_eq_false_iff_ne.2 hro;have e1' : (N.ro = 1) = False := eq_false hro
   have hx : N.said ⟨2,mf,mo,mt,mi,ml,mc,mx,mb,mes,msn⟩ = N := by
    unfold Node.said;exact if_pos (.inr ⟨rfl, .inl hro⟩)
   have HX := hdq2 hx hid;clear h hZ h1 hZ1 hkp hid a hx hro hf hn hb1
   go_enter Tryz.func78,Tryz.ntmps78
   go_wp2;refine bpq ?_;refine ⟨rfl,?_⟩;rw [HX.out.1];exact ⟨q,xs,K,HX.out.2.1,rfl,HX.out.2.2⟩
theorem qdS (h : RfAt w p N Z q s xs K) (hZ : ∀ b,Z b -> b < w.heap.size) (a : Able N) (m : Msg) (A : Option Addr) (cA : Nat) (E : Option Addr) (cE : Nat) (hk : m.k = 4) (hf : 0 <= m.f /\ m.f < N.n) :
 Calls Tryz.prog 80 #[ptrV p,msgV m A cA E cE] w fun e w' => e = .returned (.tuple #[]) /\ Turned w w' p (N.said m) Z q s := by
 obtain ⟨mk,mf,mo,mt,mi,ml,mc,mx,mb,mes,msn⟩ := m;dsimp only at hk hf;subst hk;have hp := h.lt;obtain ⟨W1,hW1⟩ := exq (w.alloc (.cells #[.int .i64 4, .int .i64 mf, .int .i64 mo, .int .i64 mt, .int .i64 mi, .int .i64 ml, .int .i64 mc, .int .i64 mx, .bool mb, .slice A mes.length cA, .int .i64 msn.i, .int .i64 msn.t, .slice E msn.d.length cE] 51))
 have hb1 : Below w.heap.size w W1 := by rw [<- hW1]; exact blq.alloc nlq _
 have hrow : W1.heap[w.heap.size]? = some (.cells #[.int .i64 4, .int .i64 mf, .int .i64 mo, .int .i64 mt, .int .i64 mi, .int .i64 ml, .int .i64 mc, .int .i64 mx, .bool mb, .slice A mes.length cA, .int .i64 msn.i, .int .i64 msn.t, .slice E msn.d.length cE] 51) := by rw [<- hW1]; exact heap_alloc_new w _
 have hsz : W1.heap.size = w.heap.size + 1 := by rw [<- hW1]; simp
 have d1 : W1.cell? ⟨w.heap.size,1,none⟩ = some (.int .i64 mf) := qb hrow 1 _ rfl;have d3 : W1.cell? ⟨w.heap.size,3,none⟩ = some (.int .i64 mt) := qb hrow 3 _ rfl;have d8 : W1.cell? ⟨w.heap.size,8,none⟩ = some (.bool mb) := qb hrow 8 _ rfl;have h1 := h.below hb1
 have hZ1 : ∀ b,Z b -> b < W1.heap.size := fun b hb => Nat.lt_of_lt_of_le (hZ b hb) hb1.size
 have hkp : qf Z w W1 := keeps_below hb1 nlq;have c10 := h1.c10;have hid : RfAt W1 p N Z q s xs K /\ qf Z w W1 := ⟨h1,hkp⟩
 by_cases hro : N.ro = 2
 · have e1 : (N.ro == 2) = true := beq_iff_eq.2 hro
   cases mb with
   | false =>
     have hC := qc3 h1 hZ1 a hro mf.toNat (by omega) 2;rw [Int.toNat_of_nonneg hf.1] at hC;have hx := qh6 (m := ⟨4,mf,mo,mt,mi,ml,mc,mx,false,mes,msn⟩) rfl hro;have HX := hdq2 hx hkp;have HB := Lib.hid hrow;clear h hZ h1 hZ1 hkp hid a hx hro hf hb1
     go_enter Tryz.func80,Tryz.ntmps80
     go_wp2_with fail
     refine hC.mono ?_;rintro e w5 ⟨rfl,hT⟩;have HT := Lib.hid hT;clear hT hC;go_wp2;refine bpq ?_;refine ⟨rfl,?_⟩;rw [HX.out.1];exact HT.out.back rfl HX.out.2
   | true =>
     have hC := qc3 h1 hZ1 a hro mf.toNat (by omega) 1;rw [Int.toNat_of_nonneg hf.1] at hC;have hx := qh6 (m := ⟨4,mf,mo,mt,mi,ml,mc,mx,true,mes,msn⟩) rfl hro;have HX := hdq2 hx hkp;have HB := Lib.hid hrow;clear h hZ h1 hZ1 hkp hid a hx hro hf hb1
     go_enter Tryz.func80,Tryz.ntmps80
     go_wp2_with fail
     refine hC.mono ?_;rintro e w5 ⟨rfl,hT⟩;have HT := Lib.hid hT;clear hT hC;go_wp2;refine bpq ?_;refine ⟨rfl,?_⟩;rw [HX.out.1];exact HT.out.back rfl HX.out.2
 · have e1 : (N.ro == 2) = false := beq_eq_false_iff_ne.2 hro;have e1' : (N.ro = 2) = False := eq_false hro
   have hx : N.said ⟨4,mf,mo,mt,mi,ml,mc,mx,mb,mes,msn⟩ = N := by
    unfold Node.said;exact if_pos (.inl ⟨rfl,hro⟩)
   have HX := hdq2 hx hid;clear h hZ h1 hZ1 hkp hid a hx hro hf hb1
   go_enter Tryz.func80,Tryz.ntmps80
   go_wp2;refine bpq ?_;refine ⟨rfl,?_⟩;rw [HX.out.1];exact ⟨q,xs,K,HX.out.2.1,rfl,HX.out.2.2⟩
end Go.Proofs.YtmiijlecfiddmaaGreat
set_option linter.unusedVariables false
set_option linter.unusedSimpArgs false
set_option maxRecDepth 100000
set_option maxHeartbeats 3200000
namespace Go.Proofs.YtmiijlecfiddmaaGreat
open Go.RowKit Go.Shelf
attribute [local go_sem] Oper.semAt_some
variable {w : World} {p : Nat} {N : Node} {Z : Nat -> Prop} {q : Ptrs} {s : Nat} {xs : List MLay} {K : Nat -> Prop}
def qaD (w w' : World) (p : Nat) (N N' : Node) (Z : Nat -> Prop) (q : Ptrs) (s : Nat) : Prop := ∃ s',Turned w w' p N' Z q s' /\ (frel N.lg s -> frel N'.lg s')
def qla (w wx : World) (p : Nat) (N1 : Node) (m : Msg) (Z1 : Nat -> Prop) (q1 : Ptrs) (s : Nat) (xs : List MLay) (K : Nat -> Prop) (v4 v5 : Value) : Prop :=
 ∃ (lg : RL) (idx : Int) (ok : Bool) (s' : Nat),v4 = .int .i64 idx /\ v5 = .bool ok /\ ((m.i < N1.cm /\ lg = N1.lg /\ idx = N1.cm /\ ok = true) \/ (¬ m.i < N1.cm /\ (lg,idx,ok) = N1.lg.take m.i m.l m.es)) ∧
  RfAt wx p { N1 with lg := lg } Z1 q1 s' xs K /\ (frel N1.lg s -> frel lg s') /\ qf Z1 w wx
theorem qlb {N : Node} {m : Msg} (hro : N.ro ≠ 3) {lg : RL} {idx : Int} {ok : Bool} (hl : ((m.i < N.cm /\ lg = N.lg /\ idx = N.cm /\ ok = true) \/ (¬ m.i < N.cm /\ (lg,idx,ok) = N.lg.take m.i m.l m.es))) (ht : m.t = N.ht) :
 N.app m = ({ N.fall m.t m.f with lg := lg,cm := if ok = true then max N.cm (min m.c idx) else N.cm } : Node).say { Node.msg 6 m.f.toNat N.ht with x := m.x,b := ok,i := idx } := by
 have hh : (N.fall m.t m.f).ht = N.ht := by
  show (if N.ht < m.t then m.t else N.ht) = N.ht;rw [if_neg (by omega)]
 have hc : (N.fall m.t m.f).cm = N.cm := rfl;have hlg : (N.fall m.t m.f).lg = N.lg := rfl;unfold Node.app;rw [if_neg hro];dsimp only;obtain ⟨r,hr⟩ := exq (N.fall m.t m.f);rw [hr] at hh hc hlg ⊢;rw [<- hh];rcases hl with ⟨h1,rfl,rfl,rfl⟩ | ⟨h1,h2⟩
 · rw [if_pos (by rw [hc]; exact h1),hc,if_pos rfl]
   have e : max N.cm (min m.c N.cm) = N.cm := by omega
   rw [e,<- hlg,<- hc]
 · rw [if_neg (by rw [hc]; exact h1),hlg,<- h2];dsimp only;rw [hc]
   have e : (if ok = true /\ N.cm < min m.c idx then min m.c idx else N.cm) = (if ok = true then max N.cm (min m.c idx) else N.cm) := by
    cases ok with
    | false => simp
    | true =>
      rw [if_pos rfl]
      split
      · omega
      · rename_i g
        have : ¬ N.cm < min m.c idx := fun x => g ⟨rfl,x⟩
        omega
   rw [e]
theorem RfAt.setCm (h : RfAt w p N Z q s xs K) (c : Int) : RfAt (w.setCell ⟨p,9,none⟩ (.int .i64 c)) p { N with cm := c } Z q s xs K /\ qf Z w (w.setCell ⟨p,9,none⟩ (.int .i64 c)) := by
 have o1 := h.on.put 9 (.int .i64 c) (C' := rfC { N with cm := c } q) rfl;exact ⟨h.turn (Nat.le_of_eq o1.size.symm) (fun b _ hb => o1.off b hb) o1.row rfl rfl rfl rfl rfl,o1.keeps h.away⟩
theorem qfr (h : RfAt w p N Z q s xs K) (hZ : ∀ b,Z b -> b < w.heap.size) (a : Able N) (m : Msg) (A : Option Addr) (cA : Nat) (E : Option Addr) (cE : Nat) (hM : qo w Z m A cA E cE) (hf : 0 <= m.f) (hmt : m.t = N.ht) (hmi : m.i <= 1099511627776) (hes : m.es.length <= 4) :
 Calls Tryz.prog 81 #[ptrV p,msgV m A cA E cE] w fun e w' => e = .returned (.tuple #[]) /\ qaD w w' p N (N.app m) Z q s := by
 have hp := h.lt;obtain ⟨W1,hW1⟩ := exq (w.alloc (.cells #[.int .i64 m.k, .int .i64 m.f, .int .i64 m.o, .int .i64 m.t, .int .i64 m.i, .int .i64 m.l, .int .i64 m.c, .int .i64 m.x, .bool m.b, .slice A m.es.length cA, .int .i64 m.s.i, .int .i64 m.s.t, .slice E m.s.d.length cE] 51))
 have hb1 : Below w.heap.size w W1 := by rw [<- hW1]; exact blq.alloc nlq _
 have hrow : W1.heap[w.heap.size]? = some (.cells #[.int .i64 m.k, .int .i64 m.f, .int .i64 m.o, .int .i64 m.t, .int .i64 m.i, .int .i64 m.l, .int .i64 m.c, .int .i64 m.x, .bool m.b, .slice A m.es.length cA, .int .i64 m.s.i, .int .i64 m.s.t, .slice E m.s.d.length cE] 51) := by rw [<- hW1]; exact heap_alloc_new w _
 have hsz : W1.heap.size = w.heap.size + 1 := by rw [<- hW1]; simp
 have R1 := h.more (Y := fun b => b = w.heap.size) (fun b hb => by rw [hb]; exact nlq) hb1
 have hZ1 : ∀ b,(Z b \/ b = w.heap.size) -> b < W1.heap.size := fun b hb => by
  rcases hb with hb | rfl
  · have := hZ b hb; omega
  · omega
 have hkp : qf Z w W1 := keeps_below hb1 nlq
 have M1 : qo W1 (fun b => Z b \/ b = w.heap.size) m A cA E cE := (hM.below hb1 nlq).mono fun b hb => .inl hb
 have c10 := R1.c10
 by_cases hro : N.ro = 3
 · have e1 : (N.ro == 3) = true := beq_iff_eq.2 hro
   have hx : N.app m = N := by
    unfold Node.app;exact if_pos hro
   have HX := hdq3 hx R1 hkp;clear h hZ R1 hZ1 hkp a hx hro hf hb1 M1 hM hmt hmi hes hrow
   go_enter Tryz.func81,Tryz.ntmps81
   go_wp2;refine bpq ?_;refine ⟨rfl,?_⟩;rw [HX.out.1];exact ⟨s,⟨q,xs,K,HX.out.2.1.less fun b hb => .inl hb,rfl,HX.out.2.2⟩,id⟩
 · have e1 : (N.ro == 3) = false := beq_eq_false_iff_ne.2 hro;have e1' : (N.ro = 3) = False := eq_false hro
   have hFall := fun X (hX : Below W1.heap.size W1 X) => qbc (R1.below hX) N.ht m.f
   have hlt1 : w.heap.size < W1.heap.size := by omega
   have hp1 : p < W1.heap.size := by omega
   have c2 := R1.c2;have d1 : W1.cell? ⟨w.heap.size,1,none⟩ = some (.int .i64 m.f) := qb hrow 1 _ rfl;have hBox : ∀ W,qf (fun b => Z b \/ b = w.heap.size) W1 W -> W.heap[w.heap.size]? = some (.cells #[.int .i64 m.k, .int .i64 m.f, .int .i64 m.o, .int .i64 m.t, .int .i64 m.i, .int .i64 m.l, .int .i64 m.c, .int .i64 m.x, .bool m.b, .slice A m.es.length cA, .int .i64 m.s.i, .int .i64 m.s.t, .slice E m.s.d.length cE] 51) := fun W hk => (hk.block _ hlt1 (.inr rfl)).trans hrow;have H := hdq11 hro R1 hZ1 hkp M1 a hf hmt hmi hes hBox;clear h hZ R1 hZ1 hkp a hro hf hb1 M1 hM hmt hmi hes hBox
   go_enter Tryz.func81,Tryz.ntmps81
   go_wp2_with fail
   refine wp_region_held_drew (S := (fun w' => (w'.cell? ⟨p,2,none⟩ = some (.int .i64 N.ht) /\ w'.cell? ⟨w.heap.size,1,none⟩ = some (.int .i64 m.f)) /\ True)) (by kernel_rfl) ⟨⟨c2,d1⟩,trivial⟩ (fun hHeld => ?_);refine lsq 9 ?_;refine tkq 0 ?_;refine tkq 1 ?_;refine tkq 2 ?_;refine tkq 3 ?_;refine tkq 4 ?_;refine tkq 5 ?_;refine tkq 6 ?_;refine tkq 7 ?_;refine rdq1 8 fun KK hK => ?_;go_simp;refine (hFall _ blq.drew).mono ?_;rintro e w2 ⟨rfl,R2,k2⟩;have HR2 := hdq2 (And.intro R2 k2) (Below.refl W1.heap.size W1).drew;have b2 : (w2.cell? ⟨p,2,none⟩ = some (.int .i64 N.ht) /\ w2.cell? ⟨w.heap.size,1,none⟩ = some (.int .i64 m.f)) := ⟨by have e := R2.c2; rw [show (N.fall N.ht m.f).ht = N.ht from if_neg (Int.lt_irrefl _)] at e; exact e,k2.cell (hHeld.1.2) (.inr rfl)⟩;clear R2 k2;refine hK.out _ _ ⟨b2,trivial⟩ ?_;clear hK KK hHeld;intro hHeld
   try simp only [lpq]
   clear b2;refine dnq ?_;clear hHeld hFall c2 d1 hrow;obtain ⟨⟨R2,k2⟩,hbX⟩ := HR2.out;obtain ⟨hro,R1,hZ1,hkp,M1,a,hf,hmt,hmi,hes,hBox⟩ := H.out;have kk2 : qf (fun b => Z b \/ b = w.heap.size) W1 w2 := (keeps_below hbX nlq).trans k2;have hb2 := hBox w2 kk2;have d4 : w2.cell? ⟨w.heap.size,4,none⟩ = some (.int .i64 m.i) := qb hb2 4 _ rfl;have c9 : w2.cell? ⟨p,9,none⟩ = some (.int .i64 N.cm) := R2.c9;have HB := hdq7 hro hkp hf hmt hBox a hZ1;have HC := hdq5 R2 kk2 M1 hmi hes;clear hro R1 hkp M1 a hf hmt hmi hes hBox R2 k2 kk2 hbX HR2 H hb2 hZ1 hp1 c10;obtain ⟨bi,hbi⟩ : ∃ b,decide (N.cm <= m.i) = b := ⟨_,rfl⟩
   go_upto_region 4 with fail
   go_quiet (fail)
   obtain ⟨R2,kk2,M1,hmi,hes⟩ := HC.out;have hdn := below_drewN (Below.refl w2.heap.size w2) nq;have R3 := R2.below hdn;have kk3 := kk2.trans (keeps_below hdn nlq);have hZ3 : ∀ b,(Z b \/ b = w.heap.size) -> b < (w2.drewN nq).heap.size := fun b hb => Nat.lt_of_lt_of_le (HB.out.2.2.2.2.2.2 b hb) kk3.size;have hb3 := HB.out.2.2.2.2.1 _ kk3;generalize w2.drewN nq = w3 at *;have g4 : w3.cell? ⟨w.heap.size,4,none⟩ = some (.int .i64 m.i) := qb hb3 4 _ rfl;have g5 : w3.cell? ⟨w.heap.size,5,none⟩ = some (.int .i64 m.l) := qb hb3 5 _ rfl;have g9 : w3.cell? ⟨w.heap.size,9,none⟩ = some (.slice A m.es.length cA) := qb hb3 9 _ rfl;have g8 : w3.cell? ⟨p,8,none⟩ = some (ptrV q.l) := R3.c8
   have hTake := fun X (hX : Below w3.heap.size w3 X) => qhQ (R3.below hX).log (fun b hb => Nat.lt_of_lt_of_le (R3.low hZ3 b hb) hX.size) HB.out.2.2.2.2.2.1.good m.i m.l (by omega) A m.es.length cA m.es (((M1.keeps kk3).below hX nlq).ents.mono fun b hb => .inl hb) (by have := HB.out.2.2.2.2.2.1.len; show N.lg.l.length + m.es.length <= 1000000; omega)
   have hKS : ∀ W,qf (fun b => (Z b \/ b = w.heap.size) \/ b = p \/ Parts { q with R := none,cR := 0 } K b) w3 W -> (fun w' : World => w'.cell? ⟨w.heap.size,4,none⟩ = some (.int .i64 m.i) /\ w'.cell? ⟨w.heap.size,5,none⟩ = some (.int .i64 m.l) /\ w'.cell? ⟨w.heap.size,9,none⟩ = some (.slice A m.es.length cA) /\ w'.cell? ⟨p,8,none⟩ = some (ptrV q.l) /\ qf (fun b => (Z b \/ b = w.heap.size) \/ b = p \/ Parts { q with R := none,cR := 0 } K b) w3 w') W := fun W hk => ⟨hk.cell g4 (.inl (.inr rfl)),hk.cell g5 (.inl (.inr rfl)),hk.cell g9 (.inl (.inr rfl)),hk.cell g8 (.inr (.inl rfl)),hk⟩;have HK := Lib.hid hKS;have HR3 := hdq3 R3 kk3 hbi;clear R2 kk2 M1 hmi hes hdn R3 kk3 hZ3 hb3 hKS g4 g5 g9 g8 d4 c9 HC hbi
   go_upto_if 30 with fail
   go_cut [4,5] (fun v4 v5 wx => qla W1 wx p (N.fall N.ht m.f) m (fun b => Z b \/ b = w.heap.size) { q with R := none,cR := 0 } s xs K v4 v5)
   case first =>
    cases bi with
    | true =>
      go_wp2_with fail
      refine wp_region_held_drew (S := (fun w' => w'.cell? ⟨w.heap.size,4,none⟩ = some (.int .i64 m.i) /\ w'.cell? ⟨w.heap.size,5,none⟩ = some (.int .i64 m.l) /\ w'.cell? ⟨w.heap.size,9,none⟩ = some (.slice A m.es.length cA) /\ w'.cell? ⟨p,8,none⟩ = some (ptrV q.l) /\ qf (fun b => (Z b \/ b = w.heap.size) \/ b = p \/ Parts { q with R := none,cR := 0 } K b) w3 w')) (by kernel_rfl) (HK.out _ (qf.refl _ _).drew) (fun hHeld => ?_);refine lsq 16 ?_;refine tkq 0 ?_;refine tkq 1 ?_;refine tkq 2 ?_;refine tkq 3 ?_;refine tkq 4 ?_;refine tkq 5 ?_;refine tkq 6 ?_;refine tkq 7 ?_;refine tkq 8 ?_;refine tkq 9 ?_;refine rdq1 10 fun KK hK => ?_;go_simp;refine (hTake _ blq.drew).mono ?_;rintro e w4 ⟨rfl,hlg,hk4⟩;have HT := hdq3 hlg hk4 hHeld.2.2.2.2;refine hK.out _ _ (HK.out _ (hHeld.2.2.2.2.trans hk4)) ?_;clear hK KK hHeld;intro hHeld
      try simp only [lpq]
      clear hlg hk4;refine tkq 11 ?_;refine tkq 12 ?_;refine tkq 13 ?_;refine tkq 14 ?_;refine tkq 15 ?_;refine dnq ?_;clear hHeld hTake;go_wp2
      go_meet
      obtain ⟨R3,kk3,hbi⟩ := HR3.out;obtain ⟨⟨s',hlg,hfr⟩,hk4,hkx⟩ := HT.out;refine ⟨_,_,_,s',rfl,rfl, .inr ⟨Int.not_lt.2 (of_decide_eq_true hbi),rfl⟩,R3.logged hlg (hkx.trans hk4),hfr,kk3.trans ((hkx.trans hk4).mono fun b hb => .inl hb)⟩
    | false =>
      go_wp2
      go_meet
      obtain ⟨R3,kk3,hbi⟩ := HR3.out;exact ⟨N.lg,N.cm,true,s,rfl,rfl, .inl ⟨by have := of_decide_eq_false hbi; show m.i < N.cm; omega,rfl,rfl,rfl⟩,R3,id,kk3⟩
   case rest =>
    obtain ⟨lg,idx,ok,s',rfl,rfl,hlink,R3,hfr,kk3⟩ := hcut;obtain ⟨hro,hkp,hf,hmt,hBox,a,hZ1⟩ := HB.out;have hb3 := hBox wc kk3;have g1 : wc.cell? ⟨w.heap.size,1,none⟩ = some (.int .i64 m.f) := qb hb3 1 _ rfl;have g6 : wc.cell? ⟨w.heap.size,6,none⟩ = some (.int .i64 m.c) := qb hb3 6 _ rfl;have g7 : wc.cell? ⟨w.heap.size,7,none⟩ = some (.int .i64 m.x) := qb hb3 7 _ rfl;have c9 : wc.cell? ⟨p,9,none⟩ = some (.int .i64 N.cm) := R3.c9;have f9 := R3.fz 9
    have n1 : p ≠ w.heap.size := by omega
    have n2 : (p = w.heap.size) = False := eq_false n1;have n3 : (w.heap.size = p) = False := eq_false n1.symm;have hall := qlb (N := N) (m := m) hro hlink hmt
    have hhh : (N.fall N.ht m.f).ht = N.ht := by
     show (if N.ht < N.ht then N.ht else N.ht) = N.ht;rw [if_neg (Int.lt_irrefl _)]
    rw [hmt] at hall;have hZ3 : ∀ b,(Z b \/ b = w.heap.size) -> b < wc.heap.size := fun b hb => Nat.lt_of_lt_of_le (hZ1 b hb) kk3.size
    cases ok with
    | true =>
      rw [if_pos rfl] at hall;obtain ⟨R4,k4⟩ := R3.setCm (max N.cm (min m.c idx));have R4 := R4.below blq.drew;have k4 := k4.drew
      have hS := qaK R4 (fun b hb => Nat.lt_of_lt_of_le (hZ3 b hb) k4.size) (by have := a.ms; show N.ms.length < 999990; omega) ⟨6,0,0,0,idx,0,0,m.x,true,[],Node.noEnt⟩ rfl rfl m.f { Node.msg 6 m.f.toNat N.ht with x := m.x,b := true,i := idx } (by
       unfold Node.msg;rw [Int.toNat_of_nonneg hf];show (⟨6,0,m.f,N.ht,idx,0,0,m.x,true,[],Node.noEnt⟩ : Msg) = ⟨6,0,m.f,(N.fall N.ht m.f).ht,idx,0,0,m.x,true,[],Node.noEnt⟩
       rw [hhh])
      have HF := hdq4 hall hfr (kk3.trans k4) hkp;clear hlink R3 hfr kk3 hro hkp hf hmt hBox a hZ1 hb3 hall hhh hZ3 R4 k4 HB HK HR3 hTake
      go_wp2_with fail
      go_region
      go_wp2_with fail
      refine hS.mono ?_;rintro e w5 ⟨rfl,q5,xs5,K5,r1,r2,r3⟩;have HT := hdq3 r1 r2 r3;clear r1 r2 r3 hS;go_wp2;refine bpq ?_;obtain ⟨hall,hfr,kk,hkp⟩ := HF.out;obtain ⟨r1,r2,r3⟩ := HT.out;rw [hall];exact ⟨rfl,s',⟨q5,xs5,K5,r1.less fun b hb => .inl hb,r2,hkp.trans ((kk.trans r3).mono fun b hb => .inl hb)⟩,hfr⟩
    | false =>
      rw [if_neg (show ¬ false = true by simp)] at hall
      have hS := qaK R3 hZ3 (by have := a.ms; show N.ms.length < 999990; omega) ⟨6,0,0,0,idx,0,0,m.x,false,[],Node.noEnt⟩ rfl rfl m.f { Node.msg 6 m.f.toNat N.ht with x := m.x,b := false,i := idx } (by
       unfold Node.msg;rw [Int.toNat_of_nonneg hf];show (⟨6,0,m.f,N.ht,idx,0,0,m.x,false,[],Node.noEnt⟩ : Msg) = ⟨6,0,m.f,(N.fall N.ht m.f).ht,idx,0,0,m.x,false,[],Node.noEnt⟩
       rw [hhh])
      have HF := hdq4 hall hfr kk3 hkp;clear hlink R3 hfr kk3 hro hkp hf hmt hBox a hZ1 hb3 hall hhh hZ3 HB HK HR3 hTake
      go_wp2_with fail
      refine hS.mono ?_;rintro e w5 ⟨rfl,q5,xs5,K5,r1,r2,r3⟩;have HT := hdq3 r1 r2 r3;clear r1 r2 r3 hS;go_wp2;refine bpq ?_;obtain ⟨hall,hfr,kk,hkp⟩ := HF.out;obtain ⟨r1,r2,r3⟩ := HT.out;rw [hall];exact ⟨rfl,s',⟨q5,xs5,K5,r1.less fun b hb => .inl hb,r2,hkp.trans ((kk.trans r3).mono fun b hb => .inl hb)⟩,hfr⟩
end Go.Proofs.YtmiijlecfiddmaaGreat
