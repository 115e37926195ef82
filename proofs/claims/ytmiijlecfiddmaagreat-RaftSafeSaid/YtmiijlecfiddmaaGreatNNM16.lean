/- The program's node hears who polls; who asks for its vote. -/
import Derived.Test.YtmiijlecfiddmaaGreatNNM01
import Derived.Test.YtmiijlecfiddmaaGreatNNM15
set_option linter.unusedVariables false
set_option linter.unusedSimpArgs false
set_option maxRecDepth 100000
set_option maxHeartbeats 1600000
namespace Go.Proofs.YtmiijlecfiddmaaGreat
open Go.RowKit Go.Shelf
attribute [local go_sem] Oper.semAt_some
variable {w : World} {p : Nat} {N : Node} {Z : Nat -> Prop} {q : Ptrs} {s : Nat} {xs : List MLay} {K : Nat -> Prop}
theorem RfAt.newer (h : RfAt w p N Z q s xs K) (hl : N.lg.l.length <= 1000000) {X : World} (hX : Below w.heap.size w X) (i t : Int) :
 Calls Tryz.prog 97 #[ptrV q.l, .int .i64 i, .int .i64 t] X fun e w' => e = .returned (.bool (N.lg.newer i t)) /\ Below X.heap.size X w' := by
 obtain ⟨A,c,hr⟩ := (h.below hX).log.rd;exact qgL hr hl i t
theorem qeG (h : RfAt w p N Z q s xs K) (hZ : ∀ b,Z b -> b < w.heap.size) (hm : N.ms.length < 999990) (hl : N.lg.l.length <= 1000000) (hti : 0 <= N.ht) (m : Msg) (A : Option Addr) (cA : Nat) (E : Option Addr) (cE : Nat) (hf : 0 <= m.f) :
 Calls Tryz.prog 77 #[ptrV p,msgV m A cA E cE] w fun e w' => e = .returned (.tuple #[]) /\ Turned w w' p (N.poll m) Z q s := by
 have hp := h.lt;have hb1 : Below w.heap.size w (w.alloc (.cells #[.int .i64 m.k, .int .i64 m.f, .int .i64 m.o, .int .i64 m.t, .int .i64 m.i, .int .i64 m.l, .int .i64 m.c, .int .i64 m.x, .bool m.b, .slice A m.es.length cA, .int .i64 m.s.i, .int .i64 m.s.t, .slice E m.s.d.length cE] 51)) := blq.alloc nlq _;have hrow := heap_alloc_new w (.cells #[.int .i64 m.k, .int .i64 m.f, .int .i64 m.o, .int .i64 m.t, .int .i64 m.i, .int .i64 m.l, .int .i64 m.c, .int .i64 m.x, .bool m.b, .slice A m.es.length cA, .int .i64 m.s.i, .int .i64 m.s.t, .slice E m.s.d.length cE] 51)
 have hsz : (w.alloc (.cells #[.int .i64 m.k, .int .i64 m.f, .int .i64 m.o, .int .i64 m.t, .int .i64 m.i, .int .i64 m.l, .int .i64 m.c, .int .i64 m.x, .bool m.b, .slice A m.es.length cA, .int .i64 m.s.i, .int .i64 m.s.t, .slice E m.s.d.length cE] 51)).heap.size = w.heap.size + 1 := by simp
 have hmsg : m.o = m.o := rfl
 have hSay : ∀ W,Below w.heap.size w W -> ∀ (b : Bool) (t : Int),(if t = 0 then N.ht else t) = (if b = true then m.t else N.ht) -> Calls Tryz.prog 76 #[ptrV p, .int .i64 m.f,msgV ⟨2,0,0,t,0,0,0,0,b,[],Node.noEnt⟩ none 0 none 0] W fun e w' => e = .returned (.tuple #[]) /\ Turned W w' p (N.say { Node.msg 2 m.f.toNat (if b = true then m.t else N.ht) with b := b }) Z q s := fun W hW b t ht =>
  qaK (h.below hW) (fun b hb => Nat.lt_of_lt_of_le (hZ b hb) hW.size) hm _ rfl rfl m.f _ (by
   unfold Node.msg
   rw [Int.toNat_of_nonneg hf,<- ht])
 have hNew := fun X (hX : Below w.heap.size w X) => h.newer hl hX m.i m.l
 have hLea := fun X (hX : Below w.heap.size w X) => qdv (h.below hX)
 have hC : ∀ X,Below w.heap.size w X -> X.cell? ⟨p,2,none⟩ = some (.int .i64 N.ht) /\ X.cell? ⟨p,8,none⟩ = some (ptrV q.l) := fun X hX => ⟨(h.below hX).c2,(h.below hX).c8⟩;have HT := Lib.hid hti;have HI := Lib.hid h;clear h hZ hm hl hti hmsg
 by_cases ha : N.ht < m.t
 · have e1 : decide (N.ht < m.t) = true := decide_eq_true ha;obtain ⟨nb,hnb⟩ : ∃ b,N.lg.newer m.i m.l = b := ⟨_,rfl⟩;rw [hnb] at hNew;obtain ⟨lb,hlb⟩ : ∃ b,decide (N.ld = -1 \/ N.ro ≠ 3 /\ 6 <= N.wk) = b := ⟨_,rfl⟩;rw [hlb] at hLea;have HA := hdq3 ha hnb hlb;clear ha hnb hlb
   go_enter Tryz.func77,Tryz.ntmps77
   go_wp2_with fail
   generalize w.alloc (.cells #[.int .i64 m.k, .int .i64 m.f, .int .i64 m.o, .int .i64 m.t, .int .i64 m.i, .int .i64 m.l, .int .i64 m.c, .int .i64 m.x, .bool m.b, .slice A m.es.length cA, .int .i64 m.s.i, .int .i64 m.s.t, .slice E m.s.d.length cE] 51) = w1 at *
   have hlt1 : w.heap.size < w1.heap.size := by omega
   have hp1 : p < w1.heap.size := by omega
   have d3 : w1.cell? ⟨w.heap.size,3,none⟩ = some (.int .i64 m.t) := qb hrow 3 _ rfl;have d4 : w1.cell? ⟨w.heap.size,4,none⟩ = some (.int .i64 m.i) := qb hrow 4 _ rfl;have d5 : w1.cell? ⟨w.heap.size,5,none⟩ = some (.int .i64 m.l) := qb hrow 5 _ rfl;have d1 : w1.cell? ⟨w.heap.size,1,none⟩ = some (.int .i64 m.f) := qb hrow 1 _ rfl;obtain ⟨d2,d8⟩ := hC w1 hb1;have hK : ∀ W,Below w1.heap.size w1 W -> (fun w' : World => (w'.cell? ⟨w.heap.size,3,none⟩ = some (.int .i64 m.t) /\ w'.cell? ⟨w.heap.size,4,none⟩ = some (.int .i64 m.i) /\ w'.cell? ⟨w.heap.size,5,none⟩ = some (.int .i64 m.l) /\ w'.cell? ⟨p,2,none⟩ = some (.int .i64 N.ht) /\ w'.cell? ⟨p,8,none⟩ = some (ptrV q.l)) /\ Below w1.heap.size w1 w' /\ w'.cell? ⟨w.heap.size,1,none⟩ = some (.int .i64 m.f)) W := fun W hW => ⟨⟨(hW.cell (p := ⟨w.heap.size,3,none⟩) hlt1).trans d3,(hW.cell (p := ⟨w.heap.size,4,none⟩) hlt1).trans d4,(hW.cell (p := ⟨w.heap.size,5,none⟩) hlt1).trans d5,(hW.cell (p := ⟨p,2,none⟩) hp1).trans d2,(hW.cell (p := ⟨p,8,none⟩) hp1).trans d8⟩,hW,(hW.cell (p := ⟨w.heap.size,1,none⟩) hlt1).trans d1⟩
   have hup : ∀ W,Below w1.heap.size w1 W -> Below w.heap.size w W := fun W hW => hb1.trans (hW.mono (by omega))
   have HK := hdq2 hK hup;clear d3 d4 d5 d1 d2 d8 hK hup
   cases nb with
   | false =>
     refine wp_region_held_drew (S := (fun w' => (w'.cell? ⟨w.heap.size,3,none⟩ = some (.int .i64 m.t) /\ w'.cell? ⟨w.heap.size,4,none⟩ = some (.int .i64 m.i) /\ w'.cell? ⟨w.heap.size,5,none⟩ = some (.int .i64 m.l) /\ w'.cell? ⟨p,2,none⟩ = some (.int .i64 N.ht) /\ w'.cell? ⟨p,8,none⟩ = some (ptrV q.l)) /\ Below w1.heap.size w1 w' /\ w'.cell? ⟨w.heap.size,1,none⟩ = some (.int .i64 m.f))) (by kernel_rfl) (HK.out.1 _ blq.drew) (fun hHeld => ?_);refine lsq 23 ?_;refine tkq 0 ?_;refine tkq 1 ?_;refine tkq 2 ?_;refine tkq 3 ?_;refine tkq 4 ?_;refine tkq 5 ?_;refine tkq 6 ?_;refine tkq 7 ?_;refine tkq 8 ?_;refine tkq 9 ?_;refine tkq 10 ?_;refine tkq 11 ?_;refine tkq 12 ?_;refine tkq 13 ?_;refine tkq 14 ?_;refine tkq 15 ?_;refine tkq 16 ?_;refine rdq1 17 fun KK hK => ?_;go_simp;refine (hNew _ (HK.out.2 _ hHeld.2.1)).mono ?_;rintro e w3 ⟨rfl,hb3⟩;refine hK.out _ _ (HK.out.1 _ (hHeld.2.1.trans (hb3.mono hHeld.2.1.size))) ?_;clear hK KK hHeld;intro hHeld
     try simp only [lpq]
     refine tkq 18 ?_;refine tkq 19 ?_;refine tuq 20 ?_;refine tuq 21 ?_;refine tkq 22 ?_;refine dnq ?_;obtain ⟨_,hW3,g1⟩ := hHeld;have hU := HK.out.2 _ hW3;have hS := hSay _ hU false 0 (by rfl);have HU := Lib.hid hU;clear hSay hNew hLea hC hW3 hU
     go_wp2_with fail
     refine hS.mono ?_;rintro e w5 ⟨rfl,hT⟩;have HT5 := Lib.hid hT;clear hT hS;go_wp2;refine bpq ?_;refine ⟨rfl,?_⟩
     have e : N.poll m = N.say { Node.msg 2 m.f.toNat (if false = true then m.t else N.ht) with b := false } := by
      obtain ⟨ha,hn,hlb⟩ := HA.out;unfold Node.poll
      exact if_neg fun x => by rw [hn] at x; cases x.2.1
     rw [e];exact HT5.out.back rfl (keeps_below HU.out nlq)
   | true =>
     cases lb with
     | false =>
       refine wp_region_held_drew (S := (fun w' => (w'.cell? ⟨w.heap.size,3,none⟩ = some (.int .i64 m.t) /\ w'.cell? ⟨w.heap.size,4,none⟩ = some (.int .i64 m.i) /\ w'.cell? ⟨w.heap.size,5,none⟩ = some (.int .i64 m.l) /\ w'.cell? ⟨p,2,none⟩ = some (.int .i64 N.ht) /\ w'.cell? ⟨p,8,none⟩ = some (ptrV q.l)) /\ Below w1.heap.size w1 w' /\ w'.cell? ⟨w.heap.size,1,none⟩ = some (.int .i64 m.f))) (by kernel_rfl) (HK.out.1 _ blq.drew) (fun hHeld => ?_);refine lsq 23 ?_;refine tkq 0 ?_;refine tkq 1 ?_;refine tkq 2 ?_;refine tkq 3 ?_;refine tkq 4 ?_;refine tkq 5 ?_;refine tkq 6 ?_;refine tkq 7 ?_;refine tkq 8 ?_;refine tkq 9 ?_;refine tkq 10 ?_;refine tkq 11 ?_;refine tkq 12 ?_;refine tkq 13 ?_;refine tkq 14 ?_;refine tkq 15 ?_;refine tkq 16 ?_;refine rdq1 17 fun KK hK => ?_;go_simp;refine (hNew _ (HK.out.2 _ hHeld.2.1)).mono ?_;rintro e w3 ⟨rfl,hb3⟩;refine hK.out _ _ (HK.out.1 _ (hHeld.2.1.trans (hb3.mono hHeld.2.1.size))) ?_;clear hK KK hHeld;intro hHeld
       try simp only [lpq]
       refine tkq 18 ?_;refine tkq 19 ?_;refine tkq 20 ?_;refine rdq1 21 fun KK hK => ?_;go_simp;refine (hLea _ (HK.out.2 _ hHeld.2.1)).mono ?_;rintro e w4 ⟨rfl,rfl⟩;refine hK.out _ _ hHeld ?_;clear hK KK hHeld;intro hHeld
       try simp only [lpq]
       refine tkq 22 ?_;refine dnq ?_;obtain ⟨_,hW3,g1⟩ := hHeld;have hU := HK.out.2 _ hW3;have hS := hSay _ hU false 0 (by rfl);have HU := Lib.hid hU;clear hSay hNew hLea hC hW3 hU
       go_wp2_with fail
       refine hS.mono ?_;rintro e w5 ⟨rfl,hT⟩;have HT5 := Lib.hid hT;clear hT hS;go_wp2;refine bpq ?_;refine ⟨rfl,?_⟩
       have e : N.poll m = N.say { Node.msg 2 m.f.toNat (if false = true then m.t else N.ht) with b := false } := by
        obtain ⟨ha,hn,hlb⟩ := HA.out;unfold Node.poll
        exact if_neg fun x => by rw [decide_eq_false_iff_not] at hlb; exact hlb x.2.2
       rw [e];exact HT5.out.back rfl (keeps_below HU.out nlq)
     | true =>
       refine wp_region_held_drew (S := (fun w' => (w'.cell? ⟨w.heap.size,3,none⟩ = some (.int .i64 m.t) /\ w'.cell? ⟨w.heap.size,4,none⟩ = some (.int .i64 m.i) /\ w'.cell? ⟨w.heap.size,5,none⟩ = some (.int .i64 m.l) /\ w'.cell? ⟨p,2,none⟩ = some (.int .i64 N.ht) /\ w'.cell? ⟨p,8,none⟩ = some (ptrV q.l)) /\ Below w1.heap.size w1 w' /\ w'.cell? ⟨w.heap.size,1,none⟩ = some (.int .i64 m.f))) (by kernel_rfl) (HK.out.1 _ blq.drew) (fun hHeld => ?_);refine lsq 23 ?_;refine tkq 0 ?_;refine tkq 1 ?_;refine tkq 2 ?_;refine tkq 3 ?_;refine tkq 4 ?_;refine tkq 5 ?_;refine tkq 6 ?_;refine tkq 7 ?_;refine tkq 8 ?_;refine tkq 9 ?_;refine tkq 10 ?_;refine tkq 11 ?_;refine tkq 12 ?_;refine tkq 13 ?_;refine tkq 14 ?_;refine tkq 15 ?_;refine tkq 16 ?_;refine rdq1 17 fun KK hK => ?_;go_simp;refine (hNew _ (HK.out.2 _ hHeld.2.1)).mono ?_;rintro e w3 ⟨rfl,hb3⟩;refine hK.out _ _ (HK.out.1 _ (hHeld.2.1.trans (hb3.mono hHeld.2.1.size))) ?_;clear hK KK hHeld;intro hHeld
       try simp only [lpq]
       refine tkq 18 ?_;refine tkq 19 ?_;refine tkq 20 ?_;refine rdq1 21 fun KK hK => ?_;go_simp;refine (hLea _ (HK.out.2 _ hHeld.2.1)).mono ?_;rintro e w4 ⟨rfl,rfl⟩;refine hK.out _ _ hHeld ?_;clear hK KK hHeld;intro hHeld
       try simp only [lpq]
       refine tkq 22 ?_;refine dnq ?_;obtain ⟨_,hW3,g1⟩ := hHeld;have hU := HK.out.2 _ hW3;have hS := hSay _ hU true m.t (by have := HA.out.1; have := HT.out; rw [if_neg (by omega)]; rfl);have HU := Lib.hid hU;clear hSay hNew hLea hC hW3 hU
       go_wp2_with fail
       refine hS.mono ?_;rintro e w5 ⟨rfl,hT⟩;have HT5 := Lib.hid hT;clear hT hS;go_wp2;refine bpq ?_;refine ⟨rfl,?_⟩
       have e : N.poll m = N.say { Node.msg 2 m.f.toNat (if true = true then m.t else N.ht) with b := true } := by
        obtain ⟨ha,hn,hlb⟩ := HA.out;unfold Node.poll;exact if_pos ⟨ha,hn,of_decide_eq_true hlb⟩
       rw [e];exact HT5.out.back rfl (keeps_below HU.out nlq)
 · have e1 : decide (N.ht < m.t) = false := decide_eq_false ha;have HA := Lib.hid ha;clear ha
   go_enter Tryz.func77,Tryz.ntmps77
   go_wp2_with fail
   generalize w.alloc (.cells #[.int .i64 m.k, .int .i64 m.f, .int .i64 m.o, .int .i64 m.t, .int .i64 m.i, .int .i64 m.l, .int .i64 m.c, .int .i64 m.x, .bool m.b, .slice A m.es.length cA, .int .i64 m.s.i, .int .i64 m.s.t, .slice E m.s.d.length cE] 51) = w1 at *;have d3 : w1.cell? ⟨w.heap.size,3,none⟩ = some (.int .i64 m.t) := qb hrow 3 _ rfl;have d1 : w1.cell? ⟨w.heap.size,1,none⟩ = some (.int .i64 m.f) := qb hrow 1 _ rfl;obtain ⟨d2,d8⟩ := hC w1 hb1
   go_quiet (fail)
   have hU := hb1.trans ((below_drewN (Below.refl w1.heap.size w1) nq).mono (by omega))
   have hS := fun j => hSay _ (hb1.trans ((below_drewN (Below.refl w1.heap.size w1) j).mono (by omega))) false 0 (by rfl)
   have HU := Lib.hid hU;clear hSay hNew hLea hC hU
   go_wp2_with fail
   refine (hS _).mono ?_;rintro e w5 ⟨rfl,hT⟩;have HT5 := Lib.hid hT;clear hT hS;go_wp2;refine bpq ?_;refine ⟨rfl,?_⟩
   have e : N.poll m = N.say { Node.msg 2 m.f.toNat (if false = true then m.t else N.ht) with b := false } := by
    unfold Node.poll
    exact if_neg fun x => (Int.not_lt.2 HA.out) x.1
   rw [e];exact HT5.out.back rfl (keeps_below HU.out nlq)
theorem qeH (h : RfAt w p N Z q s xs K) (hZ : ∀ b,Z b -> b < w.heap.size) (hm : N.ms.length < 999990) (hl : N.lg.l.length <= 1000000) (m : Msg) (A : Option Addr) (cA : Nat) (E : Option Addr) (cE : Nat) (hf : 0 <= m.f) :
 Calls Tryz.prog 79 #[ptrV p,msgV m A cA E cE] w fun e w' => e = .returned (.tuple #[]) /\ Turned w w' p (N.vote m) Z q s := by
 have hp := h.lt;have hb1 : Below w.heap.size w (w.alloc (.cells #[.int .i64 m.k, .int .i64 m.f, .int .i64 m.o, .int .i64 m.t, .int .i64 m.i, .int .i64 m.l, .int .i64 m.c, .int .i64 m.x, .bool m.b, .slice A m.es.length cA, .int .i64 m.s.i, .int .i64 m.s.t, .slice E m.s.d.length cE] 51)) := blq.alloc nlq _;have hrow := heap_alloc_new w (.cells #[.int .i64 m.k, .int .i64 m.f, .int .i64 m.o, .int .i64 m.t, .int .i64 m.i, .int .i64 m.l, .int .i64 m.c, .int .i64 m.x, .bool m.b, .slice A m.es.length cA, .int .i64 m.s.i, .int .i64 m.s.t, .slice E m.s.d.length cE] 51)
 have hsz : (w.alloc (.cells #[.int .i64 m.k, .int .i64 m.f, .int .i64 m.o, .int .i64 m.t, .int .i64 m.i, .int .i64 m.l, .int .i64 m.c, .int .i64 m.x, .bool m.b, .slice A m.es.length cA, .int .i64 m.s.i, .int .i64 m.s.t, .slice E m.s.d.length cE] 51)).heap.size = w.heap.size + 1 := by simp
 have hSay : ∀ W,Below w.heap.size w W -> Calls Tryz.prog 76 #[ptrV p, .int .i64 m.f,msgV ⟨4,0,0,0,0,0,0,0,false,[],Node.noEnt⟩ none 0 none 0] W fun e w' => e = .returned (.tuple #[]) /\ Turned W w' p (N.say (Node.msg 4 m.f.toNat N.ht)) Z q s := fun W hW =>
  qaK (h.below hW) (fun b hb => Nat.lt_of_lt_of_le (hZ b hb) hW.size) hm _ rfl rfl m.f _ (by
   unfold Node.msg;rw [Int.toNat_of_nonneg hf]
   rfl)
 have hYes : ∀ W,Below w.heap.size w W -> Calls Tryz.prog 76 #[ptrV p, .int .i64 m.f,msgV ⟨4,0,0,0,0,0,0,0,true,[],Node.noEnt⟩ none 0 none 0] ((W.setCell ⟨p,3,none⟩ (.int .i64 m.f)).setCell ⟨p,12,none⟩ (.int .i64 0)) fun e w' => e = .returned (.tuple #[]) /\ Turned w w' p (({ N with hv := m.f,wk := 0 } : Node).say { Node.msg 4 m.f.toNat N.ht with b := true }) Z q s := fun W hW => by
  have h1 := h.below hW;have o1 := h1.on.put 3 (.int .i64 m.f) (C' := rfC { N with hv := m.f } q) rfl;have o2 := o1.put 12 (.int .i64 0) (C' := rfC { N with hv := m.f,wk := 0 } q) rfl;have h2 : RfAt ((W.setCell ⟨p,3,none⟩ (.int .i64 m.f)).setCell ⟨p,12,none⟩ (.int .i64 0)) p { N with hv := m.f,wk := 0 } Z q s xs K := h1.turn (Nat.le_of_eq o2.size.symm) (fun b _ hb => o2.off b hb) o2.row rfl rfl rfl rfl rfl;have k2 : qf Z w ((W.setCell ⟨p,3,none⟩ (.int .i64 m.f)).setCell ⟨p,12,none⟩ (.int .i64 0)) := (keeps_below hW nlq).trans (o2.keeps h.away)
  refine (qaK h2 (fun b hb => Nat.lt_of_lt_of_le (hZ b hb) k2.size) hm _ rfl rfl m.f _ ?_).mono fun e w' ⟨he,hT⟩ => ⟨he,hT.back rfl k2⟩
  unfold Node.msg;rw [Int.toNat_of_nonneg hf]
  rfl
 have hNew := fun X (hX : Below w.heap.size w X) => h.newer hl hX m.i m.l
 have hC : ∀ X,Below w.heap.size w X -> (X.cell? ⟨p,3,none⟩ = some (.int .i64 N.hv) /\ X.cell? ⟨p,8,none⟩ = some (ptrV q.l)) /\ X.cell? ⟨p,12,none⟩ = some (.int .i64 N.wk) /\ X.frozen? ⟨p,3,none⟩ = false /\ X.frozen? ⟨p,12,none⟩ = false := fun X hX => ⟨⟨(h.below hX).c3,(h.below hX).c8⟩,(h.below hX).c12,(h.below hX).fz 3,(h.below hX).fz 12⟩;have HI := Lib.hid h;clear h hZ hm hl
 by_cases hfree : N.hv = -1 \/ N.hv = m.f
 · obtain ⟨nb,hnb⟩ : ∃ b,N.lg.newer m.i m.l = b := ⟨_,rfl⟩;rw [hnb] at hNew;have HA := hdq2 hfree hnb
   have hq : ((N.hv == -1) = true) \/ ((N.hv == -1) = false /\ (N.hv = -1) = False /\ (N.hv == m.f) = true) := by
    by_cases e : N.hv = -1
    · exact .inl (beq_iff_eq.2 e)
    · exact .inr ⟨beq_eq_false_iff_ne.2 e,eq_false e,beq_iff_eq.2 (hfree.resolve_left e)⟩
   clear hnb hfree;rcases hq with e1 | ⟨e1,e1',e2⟩
   · go_enter Tryz.func79,Tryz.ntmps79
     go_wp2_with fail
     generalize w.alloc (.cells #[.int .i64 m.k, .int .i64 m.f, .int .i64 m.o, .int .i64 m.t, .int .i64 m.i, .int .i64 m.l, .int .i64 m.c, .int .i64 m.x, .bool m.b, .slice A m.es.length cA, .int .i64 m.s.i, .int .i64 m.s.t, .slice E m.s.d.length cE] 51) = w1 at *
     have hlt1 : w.heap.size < w1.heap.size := by omega
     have hp1 : p < w1.heap.size := by omega
     have d1 : w1.cell? ⟨w.heap.size,1,none⟩ = some (.int .i64 m.f) := qb hrow 1 _ rfl;have d4 : w1.cell? ⟨w.heap.size,4,none⟩ = some (.int .i64 m.i) := qb hrow 4 _ rfl;have d5 : w1.cell? ⟨w.heap.size,5,none⟩ = some (.int .i64 m.l) := qb hrow 5 _ rfl;obtain ⟨⟨d3,d8⟩,_⟩ := hC w1 hb1
     go_quiet (fail)
     have hbq : Below w1.heap.size w1 (w1.drewN nq) := below_drewN blq nq;have hK : ∀ W,Below w1.heap.size w1 W -> (fun w' : World => (w'.cell? ⟨w.heap.size,4,none⟩ = some (.int .i64 m.i) /\ w'.cell? ⟨w.heap.size,5,none⟩ = some (.int .i64 m.l) /\ w'.cell? ⟨p,8,none⟩ = some (ptrV q.l)) /\ Below w1.heap.size w1 w' /\ w'.cell? ⟨w.heap.size,1,none⟩ = some (.int .i64 m.f)) W := fun W hW => ⟨⟨(hW.cell (p := ⟨w.heap.size,4,none⟩) hlt1).trans d4,(hW.cell (p := ⟨w.heap.size,5,none⟩) hlt1).trans d5,(hW.cell (p := ⟨p,8,none⟩) hp1).trans d8⟩,hW,(hW.cell (p := ⟨w.heap.size,1,none⟩) hlt1).trans d1⟩
     have hup : ∀ W,Below w1.heap.size w1 W -> Below w.heap.size w W := fun W hW => hb1.trans (hW.mono (by omega))
     have HK := hdq3 hK hup hC;clear d1 d4 d5 d3 d8 hK hup hC
     go_wp2_with fail
     cases nb with
     | false =>
       refine wp_region_held_drew (S := (fun w' => (w'.cell? ⟨w.heap.size,4,none⟩ = some (.int .i64 m.i) /\ w'.cell? ⟨w.heap.size,5,none⟩ = some (.int .i64 m.l) /\ w'.cell? ⟨p,8,none⟩ = some (ptrV q.l)) /\ Below w1.heap.size w1 w' /\ w'.cell? ⟨w.heap.size,1,none⟩ = some (.int .i64 m.f))) (by kernel_rfl) (HK.out.1 _ hbq.drew) (fun hHeld => ?_);refine lsq 13 ?_;refine tkq 0 ?_;refine tkq 1 ?_;refine tkq 2 ?_;refine tkq 3 ?_;refine tkq 4 ?_;refine tkq 5 ?_;refine tkq 6 ?_;refine tkq 7 ?_;refine tkq 8 ?_;refine tkq 9 ?_;refine rdq1 10 fun KK hK => ?_;go_simp;refine (hNew _ (HK.out.2.1 _ hHeld.2.1)).mono ?_;rintro e w3 ⟨rfl,hb3⟩;refine hK.out _ _ (HK.out.1 _ (hHeld.2.1.trans (hb3.mono hHeld.2.1.size))) ?_;clear hK KK hHeld;intro hHeld
       try simp only [lpq]
       refine tkq 11 ?_;refine tkq 12 ?_;refine dnq ?_;obtain ⟨_,hW3,g1⟩ := hHeld;have hU := HK.out.2.1 _ hW3;have hS := hSay _ hU;have HU := Lib.hid hU;clear hSay hNew hYes hW3 hU
       go_wp2_with fail
       refine hS.mono ?_;rintro e w5 ⟨rfl,hT⟩;have HT5 := Lib.hid hT;clear hT hS;go_wp2;refine bpq ?_;refine ⟨rfl,?_⟩
       have e : N.vote m = N.say (Node.msg 4 m.f.toNat N.ht) := by
        obtain ⟨ha,hn⟩ := HA.out;unfold Node.vote
        exact if_neg fun x => by rw [hn] at x; cases x.2
       rw [e];exact HT5.out.back rfl (keeps_below HU.out nlq)
     | true =>
       refine wp_region_held_drew (S := (fun w' => (w'.cell? ⟨w.heap.size,4,none⟩ = some (.int .i64 m.i) /\ w'.cell? ⟨w.heap.size,5,none⟩ = some (.int .i64 m.l) /\ w'.cell? ⟨p,8,none⟩ = some (ptrV q.l)) /\ Below w1.heap.size w1 w' /\ w'.cell? ⟨w.heap.size,1,none⟩ = some (.int .i64 m.f))) (by kernel_rfl) (HK.out.1 _ hbq.drew) (fun hHeld => ?_);refine lsq 13 ?_;refine tkq 0 ?_;refine tkq 1 ?_;refine tkq 2 ?_;refine tkq 3 ?_;refine tkq 4 ?_;refine tkq 5 ?_;refine tkq 6 ?_;refine tkq 7 ?_;refine tkq 8 ?_;refine tkq 9 ?_;refine rdq1 10 fun KK hK => ?_;go_simp;refine (hNew _ (HK.out.2.1 _ hHeld.2.1)).mono ?_;rintro e w3 ⟨rfl,hb3⟩;refine hK.out _ _ (HK.out.1 _ (hHeld.2.1.trans (hb3.mono hHeld.2.1.size))) ?_;clear hK KK hHeld;intro hHeld
       try simp only [lpq]
       refine tkq 11 ?_;refine tkq 12 ?_;refine dnq ?_;obtain ⟨_,hW3,g1⟩ := hHeld;have hU := HK.out.2.1 _ hW3;obtain ⟨⟨d3,d8⟩,d12,f3,f12⟩ := HK.out.2.2 _ hU;have hS := hYes _ hU
       have n1 : p ≠ w.heap.size := by omega
       have n2 : (p = w.heap.size) = False := eq_false n1;have n3 : (w.heap.size = p) = False := eq_false n1.symm;have HU := Lib.hid hU;clear hSay hNew hYes hW3 hU
       go_wp2_with fail
       refine hS.mono ?_;rintro e w5 ⟨rfl,hT⟩;have HT5 := Lib.hid hT;clear hT hS;go_wp2;refine bpq ?_;refine ⟨rfl,?_⟩
       have e : N.vote m = ({ N with hv := m.f,wk := 0 } : Node).say { Node.msg 4 m.f.toNat N.ht with b := true } := by
        obtain ⟨ha,hn⟩ := HA.out;unfold Node.vote;exact if_pos ⟨ha,hn⟩
       rw [e];exact HT5.out
   · go_enter Tryz.func79,Tryz.ntmps79
     go_wp2_with fail
     generalize w.alloc (.cells #[.int .i64 m.k, .int .i64 m.f, .int .i64 m.o, .int .i64 m.t, .int .i64 m.i, .int .i64 m.l, .int .i64 m.c, .int .i64 m.x, .bool m.b, .slice A m.es.length cA, .int .i64 m.s.i, .int .i64 m.s.t, .slice E m.s.d.length cE] 51) = w1 at *
     have hlt1 : w.heap.size < w1.heap.size := by omega
     have hp1 : p < w1.heap.size := by omega
     have d1 : w1.cell? ⟨w.heap.size,1,none⟩ = some (.int .i64 m.f) := qb hrow 1 _ rfl;have d4 : w1.cell? ⟨w.heap.size,4,none⟩ = some (.int .i64 m.i) := qb hrow 4 _ rfl;have d5 : w1.cell? ⟨w.heap.size,5,none⟩ = some (.int .i64 m.l) := qb hrow 5 _ rfl;obtain ⟨⟨d3,d8⟩,_⟩ := hC w1 hb1
     go_quiet (fail)
     have hbq : Below w1.heap.size w1 (w1.drewN nq) := below_drewN blq nq;have hK : ∀ W,Below w1.heap.size w1 W -> (fun w' : World => (w'.cell? ⟨w.heap.size,4,none⟩ = some (.int .i64 m.i) /\ w'.cell? ⟨w.heap.size,5,none⟩ = some (.int .i64 m.l) /\ w'.cell? ⟨p,8,none⟩ = some (ptrV q.l)) /\ Below w1.heap.size w1 w' /\ w'.cell? ⟨w.heap.size,1,none⟩ = some (.int .i64 m.f)) W := fun W hW => ⟨⟨(hW.cell (p := ⟨w.heap.size,4,none⟩) hlt1).trans d4,(hW.cell (p := ⟨w.heap.size,5,none⟩) hlt1).trans d5,(hW.cell (p := ⟨p,8,none⟩) hp1).trans d8⟩,hW,(hW.cell (p := ⟨w.heap.size,1,none⟩) hlt1).trans d1⟩
     have hup : ∀ W,Below w1.heap.size w1 W -> Below w.heap.size w W := fun W hW => hb1.trans (hW.mono (by omega))
     have HK := hdq3 hK hup hC;clear d1 d4 d5 d3 d8 hK hup hC
     go_wp2_with fail
     cases nb with
     | false =>
       refine wp_region_held_drew (S := (fun w' => (w'.cell? ⟨w.heap.size,4,none⟩ = some (.int .i64 m.i) /\ w'.cell? ⟨w.heap.size,5,none⟩ = some (.int .i64 m.l) /\ w'.cell? ⟨p,8,none⟩ = some (ptrV q.l)) /\ Below w1.heap.size w1 w' /\ w'.cell? ⟨w.heap.size,1,none⟩ = some (.int .i64 m.f))) (by kernel_rfl) (HK.out.1 _ hbq.drew) (fun hHeld => ?_);refine lsq 13 ?_;refine tkq 0 ?_;refine tkq 1 ?_;refine tkq 2 ?_;refine tkq 3 ?_;refine tkq 4 ?_;refine tkq 5 ?_;refine tkq 6 ?_;refine tkq 7 ?_;refine tkq 8 ?_;refine tkq 9 ?_;refine rdq1 10 fun KK hK => ?_;go_simp;refine (hNew _ (HK.out.2.1 _ hHeld.2.1)).mono ?_;rintro e w3 ⟨rfl,hb3⟩;refine hK.out _ _ (HK.out.1 _ (hHeld.2.1.trans (hb3.mono hHeld.2.1.size))) ?_;clear hK KK hHeld;intro hHeld
       try simp only [lpq]
       refine tkq 11 ?_;refine tkq 12 ?_;refine dnq ?_;obtain ⟨_,hW3,g1⟩ := hHeld;have hU := HK.out.2.1 _ hW3;have hS := hSay _ hU;have HU := Lib.hid hU;clear hSay hNew hYes hW3 hU
       go_wp2_with fail
       refine hS.mono ?_;rintro e w5 ⟨rfl,hT⟩;have HT5 := Lib.hid hT;clear hT hS;go_wp2;refine bpq ?_;refine ⟨rfl,?_⟩
       have e : N.vote m = N.say (Node.msg 4 m.f.toNat N.ht) := by
        obtain ⟨ha,hn⟩ := HA.out;unfold Node.vote
        exact if_neg fun x => by rw [hn] at x; cases x.2
       rw [e];exact HT5.out.back rfl (keeps_below HU.out nlq)
     | true =>
       refine wp_region_held_drew (S := (fun w' => (w'.cell? ⟨w.heap.size,4,none⟩ = some (.int .i64 m.i) /\ w'.cell? ⟨w.heap.size,5,none⟩ = some (.int .i64 m.l) /\ w'.cell? ⟨p,8,none⟩ = some (ptrV q.l)) /\ Below w1.heap.size w1 w' /\ w'.cell? ⟨w.heap.size,1,none⟩ = some (.int .i64 m.f))) (by kernel_rfl) (HK.out.1 _ hbq.drew) (fun hHeld => ?_);refine lsq 13 ?_;refine tkq 0 ?_;refine tkq 1 ?_;refine tkq 2 ?_;refine tkq 3 ?_;refine tkq 4 ?_;refine tkq 5 ?_;refine tkq 6 ?_;refine tkq 7 ?_;refine tkq 8 ?_;refine tkq 9 ?_;refine rdq1 10 fun KK hK => ?_;go_simp;refine (hNew _ (HK.out.2.1 _ hHeld.2.1)).mono ?_;rintro e w3 ⟨rfl,hb3⟩;refine hK.out _ _ (HK.out.1 _ (hHeld.2.1.trans (hb3.mono hHeld.2.1.size))) ?_;clear hK KK hHeld;intro hHeld
       try simp only [lpq]
       refine tkq 11 ?_;refine tkq 12 ?_;refine dnq ?_;obtain ⟨_,hW3,g1⟩ := hHeld;have hU := HK.out.2.1 _ hW3;obtain ⟨⟨d3,d8⟩,d12,f3,f12⟩ := HK.out.2.2 _ hU;have hS := hYes _ hU
       have n1 : p ≠ w.heap.size := by omega
       have n2 : (p = w.heap.size) = False := eq_false n1;have n3 : (w.heap.size = p) = False := eq_false n1.symm;have HU := Lib.hid hU;clear hSay hNew hYes hW3 hU
       go_wp2_with fail
       refine hS.mono ?_;rintro e w5 ⟨rfl,hT⟩;have HT5 := Lib.hid hT;clear hT hS;go_wp2;refine bpq ?_;refine ⟨rfl,?_⟩
       have e : N.vote m = ({ N with hv := m.f,wk := 0 } : Node).say { Node.msg 4 m.f.toNat N.ht with b := true } := by
        obtain ⟨ha,hn⟩ := HA.out;unfold Node.vote;exact if_pos ⟨ha,hn⟩
       rw [e];exact HT5.out
 · have e1 : (N.hv == -1) = false := beq_eq_false_iff_ne.2 fun e => hfree (.inl e);have e1' : (N.hv = -1) = False := eq_false fun e => hfree (.inl e);have e2 : (N.hv == m.f) = false := beq_eq_false_iff_ne.2 fun e => hfree (.inr e);have e2' : (N.hv = m.f) = False := eq_false fun e => hfree (.inr e);have HA := Lib.hid hfree;clear hfree
   go_enter Tryz.func79,Tryz.ntmps79
   go_wp2_with fail
   generalize w.alloc (.cells #[.int .i64 m.k, .int .i64 m.f, .int .i64 m.o, .int .i64 m.t, .int .i64 m.i, .int .i64 m.l, .int .i64 m.c, .int .i64 m.x, .bool m.b, .slice A m.es.length cA, .int .i64 m.s.i, .int .i64 m.s.t, .slice E m.s.d.length cE] 51) = w1 at *
   have hlt1 : w.heap.size < w1.heap.size := by omega
   have d1 : w1.cell? ⟨w.heap.size,1,none⟩ = some (.int .i64 m.f) := qb hrow 1 _ rfl;obtain ⟨⟨d3,d8⟩,d12,_⟩ := hC w1 hb1
   go_quiet (fail)
   go_wp2
   go_quiet (fail)
   have hS := fun j => hSay _ (hb1.trans ((below_drewN (Below.refl w1.heap.size w1) j).mono (by omega)))
   have hU := fun j => hb1.trans ((below_drewN (Below.refl w1.heap.size w1) j).mono (by omega))
   have HU := Lib.hid hU;clear hSay hNew hC hYes hU
   go_wp2_with fail
   refine (hS _).mono ?_;rintro e w5 ⟨rfl,hT⟩;have HT5 := Lib.hid hT;clear hT hS;go_wp2;refine bpq ?_;refine ⟨rfl,?_⟩
   have e : N.vote m = N.say (Node.msg 4 m.f.toNat N.ht) := by
    unfold Node.vote
    exact if_neg fun x => HA.out x.1
   rw [e];exact HT5.out.back rfl (keeps_below (HU.out _) nlq)
end Go.Proofs.YtmiijlecfiddmaaGreat
set_option linter.unusedVariables false
set_option linter.unusedSimpArgs false
set_option maxRecDepth 100000
set_option maxHeartbeats 1600000
namespace Go.Proofs.YtmiijlecfiddmaaGreat
open Go.RowKit Go.Shelf
attribute [local go_sem] Oper.semAt_some
theorem qjw (y n : Nat) : qbK (y : Int) (n : Int) = Node.lost y n := by
 unfold qbK Node.lost
 by_cases h : 1 <= n /\ y <= n /\ n <= 2 * y
 · rw [decide_eq_true h,decide_eq_true (by omega),decide_eq_true (by omega),decide_eq_true (by omega),decide_eq_true (by omega)]; rfl
 · rw [decide_eq_false h]
   by_cases h1 : 1 <= n
   · by_cases h2 : y <= n
     · rw [decide_eq_false (show ¬ ((n : Int) - y <= y) by omega)]; simp
     · rw [decide_eq_false (show ¬ ((y : Int) <= n) by omega)]; simp
   · rw [decide_eq_false (show ¬ (1 <= (n : Int)) by omega)]; simp
def counted (N : Node) (j : Nat) (v : Int) (X : Node) : Node :=
 if N.sy j ≠ 0 then N
 else if Node.won (({ N with sy := Node.put N.sy j v } : Node).yes 1) N.n = true then X
 else if Node.lost (({ N with sy := Node.put N.sy j v } : Node).yes 2) N.n = true then ({ N with sy := Node.put N.sy j v } : Node).fall N.ht (-1) else { N with sy := Node.put N.sy j v }
theorem qdx {w : World} {p : Nat} {N : Node} {Z : Nat -> Prop} {q : Ptrs} {s : Nat} {xs : List MLay} {K : Nat -> Prop} (h : RfAt w p N Z q s xs K) (hn : N.n <= 3) (j : Nat) (hj : j < N.n) (v : Int) (F : Nat) (X : Node) (hcf : ∀ W : World,Sem.run Tryz.prog (callFunc F #[ptrV p]) W = .ok (.enter F #[ptrV p]) W)
 (hF : ∀ W,RfAt W p { N with sy := Node.put N.sy j v } Z q s xs K -> qf Z w W -> Calls Tryz.prog F #[ptrV p] W fun e w' => e = .returned (.tuple #[]) /\ Turned W w' p X Z q s) :
 Calls Tryz.prog 99 #[ptrV p, .int .i64 (j : Int), .int .i64 v, .func (.func F) #[ptrV p] #[]] w fun e w' => e = .returned (.tuple #[]) /\ Turned w w' p (counted N j v X) Z q s := by
 by_cases hs0 : N.sy j = 0
 · have o1 : OnP p (rfC { N with sy := Node.put N.sy j v } q) w (w.setCell ⟨p,13 + j,none⟩ (.int .i64 v)) := by
    obtain rfl | rfl | rfl : j = 0 \/ j = 1 \/ j = 2 := by omega
    all_goals exact h.on.put _ (.int .i64 v) rfl
   have h1 : RfAt (w.setCell ⟨p,13 + j,none⟩ (.int .i64 v)) p { N with sy := Node.put N.sy j v } Z q s xs K := h.turn (Nat.le_of_eq o1.size.symm) (fun b _ hb => o1.off b hb) o1.row rfl rfl rfl rfl rfl;have k1 : qf Z w (w.setCell ⟨p,13 + j,none⟩ (.int .i64 v)) := o1.keeps h.away;obtain ⟨W1,hW1⟩ := exq (w.setCell ⟨p,13 + j,none⟩ (.int .i64 v));rw [hW1] at h1 k1;have hW := qde h1 hn
   have hSd := fun k => qef (h1.below (below_drewN (Below.refl W1.heap.size W1) k)) hn 2
   obtain ⟨wb,hwb⟩ : ∃ b,Node.won (({ N with sy := Node.put N.sy j v } : Node).yes 1) N.n = b := ⟨_,rfl⟩;rw [show Node.won (({ N with sy := Node.put N.sy j v } : Node).yes 1) ({ N with sy := Node.put N.sy j v } : Node).n = wb from hwb] at hW;obtain ⟨lb,hlb⟩ : ∃ b,Node.lost (({ N with sy := Node.put N.sy j v } : Node).yes 2) N.n = b := ⟨_,rfl⟩
   have hL := fun W => qko (((({ N with sy := Node.put N.sy j v } : Node).yes 2 : Nat)) : Int) (N.n : Int) (by omega) W
   rw [qjw,hlb] at hL;generalize ((({ N with sy := Node.put N.sy j v } : Node).yes 2 : Nat) : Int) = yy at *
   have c2 := fun k => (h1.below (below_drewN (Below.refl W1.heap.size W1) k)).c2
   have c1 := h1.c1
   have cj : w.cell? ⟨p,13 + j,none⟩ = some (.int .i64 0) := by
    rw [<- hs0]
    obtain rfl | rfl | rfl : j = 0 \/ j = 1 \/ j = 2 := by omega
    · exact h.c13
    · exact h.c14
    · exact h.c15
   have fj := h.fz (13 + j)
   have hFw := fun k => hF _ (h1.below (below_drewN (Below.refl W1.heap.size W1) k)) (k1.trans (keeps_below (below_drewN blq k) nlq))
   have hFa := fun k => qbc (h1.below (below_drewN (Below.refl W1.heap.size W1) k)) N.ht (-1)
   have hkk := fun k => k1.trans (keeps_below (Z := Z) (below_drewN (Below.refl W1.heap.size _) k) nlq)
   have HA := hdq5 hs0 hwb hlb h1 hkk;clear h hF o1 h1 k1 hkk hwb hlb hs0
   cases wb with
   | true =>
     clear hSd hL c2 hFa
     obtain rfl | rfl | rfl : j = 0 \/ j = 1 \/ j = 2 := by omega
     all_goals
      try simp only [Nat.add_zero,Nat.reduceAdd] at *
      go_enter Tryz.func99,Tryz.ntmps99
      go_wp2_with fail
      refine hW.mono ?_;rintro e w2 ⟨rfl,k2,rfl⟩;clear hW cj fj c1
      go_wp2_with fail
      refine (hFw _).mono ?_;rintro e w3 ⟨rfl,hT⟩;have HT := Lib.hid hT;clear hT hFw;go_wp2;refine bpq ?_;obtain ⟨hs0,hwb,hlb,h1,hkk⟩ := HA.out;have e : counted N _ v X = X := (if_neg fun x => x hs0).trans (if_pos hwb);rw [e];exact ⟨rfl,HT.out.back rfl (hkk _)⟩
   | false =>
     clear hFw
     cases lb with
     | true =>
       obtain rfl | rfl | rfl : j = 0 \/ j = 1 \/ j = 2 := by omega
       all_goals
        try simp only [Nat.add_zero,Nat.reduceAdd] at *
        go_enter Tryz.func99,Tryz.ntmps99
        go_wp2_with fail
        refine hW.mono ?_;rintro e w2 ⟨rfl,k2,rfl⟩
        have hSd2 : ∀ a,Calls Tryz.prog 90 #[ptrV p, .int .i64 2] ((W1.drewN k2).drewN a) (qa1 ((W1.drewN k2).drewN a) (.int .i64 yy)) := fun a => by rw [World.drewN_drewN]; exact hSd _
        have c12 : (W1.drewN k2).cell? ⟨p,1,none⟩ = some (.int .i64 (N.n : Int)) := c1
        have hkk2 : ∀ a,qf Z w ((W1.drewN k2).drewN a) := fun a => by rw [World.drewN_drewN]; exact HA.out.2.2.2.2 _
        have h12 : ∀ a,RfAt ((W1.drewN k2).drewN a) p { N with sy := Node.put N.sy _ v } Z q s xs K := fun a => HA.out.2.2.2.1.below (by rw [World.drewN_drewN]; exact below_drewN (Below.refl W1.heap.size W1) _);have HK2 := hdq2 hkk2 h12
        have hFa2 := fun a => qbc (h12 a) N.ht (-1)
        have c22 := fun a => (h12 a).c2
        generalize W1.drewN k2 = W2 at *;clear hW cj fj hSd hFa hkk2 h12 c1 c2
        go_wp2_with fail
        go_big_quiet (first
         | (go_at_call 90
            exact (hSd2 _).mono fun _ _ h => h.at)
         | (go_at_call 108
            exact Calls.quiet_of_same ((hL _).mono fun e w' ⟨h1,h2⟩ => ⟨h1,h2.symm⟩)))
        go_wp2_with fail
        refine (hFa2 _).mono ?_;rintro e w3 ⟨rfl,h3,k3⟩;have HT := hdq2 h3 k3;clear h3 k3 hFa2;go_wp2;refine bpq ?_;obtain ⟨hs0,hwb,hlb,h1,hkk⟩ := HA.out;obtain ⟨h3,k3⟩ := HT.out;have e : counted N _ v X = ({ N with sy := Node.put N.sy _ v } : Node).fall N.ht (-1) := (if_neg fun x => x hs0).trans ((if_neg (by rw [hwb]; simp)).trans (if_pos hlb));rw [e];exact ⟨rfl,_,xs,K,h3,rfl,(HK2.out.1 _).trans k3⟩
     | false =>
       clear hFa c2
       obtain rfl | rfl | rfl : j = 0 \/ j = 1 \/ j = 2 := by omega
       all_goals
        try simp only [Nat.add_zero,Nat.reduceAdd] at *
        go_enter Tryz.func99,Tryz.ntmps99
        go_wp2_with fail
        refine hW.mono ?_;rintro e w2 ⟨rfl,k2,rfl⟩
        have hSd2 : ∀ a,Calls Tryz.prog 90 #[ptrV p, .int .i64 2] ((W1.drewN k2).drewN a) (qa1 ((W1.drewN k2).drewN a) (.int .i64 yy)) := fun a => by rw [World.drewN_drewN]; exact hSd _
        have c12 : (W1.drewN k2).cell? ⟨p,1,none⟩ = some (.int .i64 (N.n : Int)) := c1
        have hkk2 : ∀ a,qf Z w ((W1.drewN k2).drewN a) := fun a => by rw [World.drewN_drewN]; exact HA.out.2.2.2.2 _
        have h12 : ∀ a,RfAt ((W1.drewN k2).drewN a) p { N with sy := Node.put N.sy _ v } Z q s xs K := fun a => HA.out.2.2.2.1.below (by rw [World.drewN_drewN]; exact below_drewN (Below.refl W1.heap.size W1) _);have HK2 := hdq2 hkk2 h12;generalize W1.drewN k2 = W2 at *;clear hW cj fj hSd hkk2 h12 c1
        go_wp2_with fail
        go_big_quiet (first
         | (go_at_call 90
            exact (hSd2 _).mono fun _ _ h => h.at)
         | (go_at_call 108
            exact Calls.quiet_of_same ((hL _).mono fun e w' ⟨h1,h2⟩ => ⟨h1,h2.symm⟩)))
        go_wp2;refine bpq ?_;obtain ⟨hs0,hwb,hlb,h1,hkk⟩ := HA.out;have e : counted N _ v X = { N with sy := Node.put N.sy _ v } := (if_neg fun x => x hs0).trans ((if_neg (by rw [hwb]; simp)).trans (if_neg (by rw [hlb]; simp)));rw [e];exact ⟨rfl,q,xs,K,HK2.out.2 _,rfl,HK2.out.1 _⟩
 · have e1 : (N.sy j == 0) = false := beq_eq_false_iff_ne.2 hs0;have e1' : (N.sy j = 0) = False := eq_false hs0
   have cj : w.cell? ⟨p,13 + j,none⟩ = some (.int .i64 (N.sy j)) := by
    obtain rfl | rfl | rfl : j = 0 \/ j = 1 \/ j = 2 := by omega
    · exact h.c13
    · exact h.c14
    · exact h.c15
   have HA := hdq2 hs0 h;clear h hF hs0
   obtain rfl | rfl | rfl : j = 0 \/ j = 1 \/ j = 2 := by omega
   all_goals
    go_enter Tryz.func99,Tryz.ntmps99
    go_wp2;refine bpq ?_;obtain ⟨hs0,h⟩ := HA.out;refine ⟨rfl,q,xs,K,h.cast ?_,rfl,qf.refl _ _⟩;exact if_pos hs0
end Go.Proofs.YtmiijlecfiddmaaGreat
