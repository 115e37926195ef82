/- The program's leader goes on behind an answer. -/
import Derived.Test.YtmiijlecfiddmaaGreatNNM01
import Derived.Test.YtmiijlecfiddmaaGreatNNM18
set_option linter.unusedVariables false
set_option linter.unusedSimpArgs false
set_option maxRecDepth 100000
set_option maxHeartbeats 1600000
namespace Go.Proofs.YtmiijlecfiddmaaGreat
open Go.RowKit Go.Shelf
attribute [local go_sem] Oper.semAt_some
def qbd (N : Node) (k : Nat) : Node :=
 if N.settle.2 = true then N.settle.1.sendAll else if N.settle.1.nx k <= N.settle.1.lg.lastI then N.settle.1.send k else N.settle.1
structure qlg (N : Node) : Prop where
 n : N.n <= 3 /\ N.id < 3
 ms : N.ms.length < 999990
 len : N.lg.l.length <= 300000
 good : Good N.lg
 sd : N.sn.d.length <= 50000
 nx : ∀ j,-4611686018427387904 <= N.nx j /\ N.nx j <= 4611686018427387904
 ma : ∀ j,0 <= N.ma j /\ N.ma j <= 4611686018427387904
theorem qbY (N : Node) (k : Nat) : ∃ x,N.send k = { N with ms := N.ms ++ [x] } := by
 unfold Node.send
 split <;> exact ⟨_,rfl⟩
theorem qcF {w : World} {p : Nat} {N : Node} {Z : Nat -> Prop} {q : Ptrs} {s : Nat} {xs : List MLay} {K : Nat -> Prop} (h : RfAt w p N Z q s xs K) (hZ : ∀ b,Z b -> b < w.heap.size) (a : qlg N) (j : Nat) (hj : j < 3) :
 Calls Tryz.prog 101 #[ptrV p, .int .i64 (j : Int)] w fun e w' => e = .returned (.tuple #[]) /\ Turned w w' p (qbd N j) Z q s := by
 have hlim := a.good.lim;have hlast := a.good.lastI;have hA := qbw h hZ (by have := a.len; omega) a.good a.n (fun j => ⟨by have := a.ma j; show (-9223372036854775808 : Int) <= _; omega,by have := a.ma j; show _ <= (9223372036854775807 : Int); omega⟩) ⟨by show (-9223372036854775808 : Int) <= _; omega,by show _ <= (9223372036854775807 : Int); omega⟩ (fun j => (a.ma j).1) (by omega);obtain ⟨c,hset⟩ := qbb N
 have hgo : qbd N j = if N.settle.2 = true then ({ N with cm := c } : Node).sendAll else if N.nx j <= N.lg.lastI then ({ N with cm := c } : Node).send j else { N with cm := c } := by
  unfold qbd;rw [hset]
 rw [hset] at hA;generalize qbd N j = X at *;generalize N.settle.2 = bb at *;have HGo := Lib.hid hgo;clear hgo;have H := hdq2 a hZ;clear h hZ a hlim hlast hset
 cases bb with
 | true =>
   go_enter Tryz.func101,Tryz.ntmps101
   go_wp2_with fail
   refine hA.mono ?_;rintro e w2 ⟨rfl,R2,k2⟩;obtain ⟨a,hZ⟩ := H.out;have hS := qax R2 (fun b hb => Nat.lt_of_lt_of_le (hZ b hb) k2.size) a.ms (by have := a.len; show N.lg.l.length <= 1000000; omega) a.good a.nx a.sd a.n;have HK := Lib.hid k2;clear a hZ R2 k2 H hA
   go_wp2_with fail
   refine hS.mono ?_;rintro e w3 ⟨rfl,hT⟩;have HT := Lib.hid hT;clear hT hS;go_wp2;refine bpq ?_;have e := HGo.out;rw [if_pos (by trivial)] at e;rw [e];exact ⟨rfl,HT.out.back rfl HK.out⟩
 | false =>
   by_cases hle : N.nx j <= N.lg.lastI
   · have e1 : decide (N.nx j <= N.lg.lastI) = true := decide_eq_true hle;have HL := Lib.hid hle;clear hle
     obtain rfl | rfl | rfl : j = 0 \/ j = 1 \/ j = 2 := by omega
     · go_enter Tryz.func101,Tryz.ntmps101
       go_wp2_with fail
       refine hA.mono ?_;rintro e w2 ⟨rfl,R2,k2⟩;obtain ⟨a,hZ⟩ := H.out
       have hLast := fun X (hX : Below w2.heap.size w2 X) => qC (R2.below hX) (by have := a.len; show N.lg.l.length <= 1000000; omega)
       have cn : w2.cell? ⟨p,16,none⟩ = some (.int .i64 (N.nx 0)) := R2.c16;have hp2 := R2.lt;have HR := hdq4 a hZ R2 k2;clear a hZ R2 k2 H hA
       go_wp2_with fail
       refine wp_region_held_drew (S := (fun w' => w'.cell? ⟨p,16,none⟩ = some (.int .i64 (N.nx 0)) /\ Below w2.heap.size w2 w')) (by kernel_rfl) ⟨cn,blq.drew⟩ (fun hHeld => ?_);refine lsq 10 ?_;refine tkq 0 ?_;refine tkq 1 ?_;refine tkq 2 ?_;refine tkq 3 ?_;refine tkq 4 ?_;refine tkq 5 ?_;refine tkq 6 ?_;refine tkq 7 ?_;refine rdq1 8 fun KK hK => ?_;go_simp;refine (hLast _ hHeld.2).mono ?_;rintro e w3 ⟨rfl,hb3⟩;have HB3 := Lib.hid (hHeld.2.trans (hb3.mono hHeld.2.size));clear hb3;refine hK.out _ _ ⟨(HB3.out.cell (p := ⟨p,16,none⟩) hp2).trans cn,HB3.out⟩ ?_;clear hK KK hHeld;intro hHeld
       try simp only [lpq]
       refine tkq 9 ?_;refine dnq ?_;clear hHeld hLast;obtain ⟨a,hZ,R2,k2⟩ := HR.out;have R3 := R2.below HB3.out;have k3 := k2.trans (keeps_below (Z := Z) HB3.out nlq);have hS := qaw R3 (fun b hb => Nat.lt_of_lt_of_le (hZ b hb) k3.size) (by have := a.ms; show N.ms.length < 999999; omega) (by have := a.len; show N.lg.l.length <= 1000000; omega) a.good a.nx a.sd (by have := a.n.2; show N.id < 4; omega) 0 (by omega);have HK := Lib.hid k3;clear a hZ R2 k2 R3 k3 HR cn hp2 HB3
       go_wp2_with fail
       refine hS.mono ?_;rintro e w4 ⟨rfl,hT⟩;have HT := Lib.hid hT;clear hT hS;go_wp2;refine bpq ?_;have e := HGo.out;rw [if_neg (show ¬ false = true by simp),if_pos HL.out] at e;rw [e];exact ⟨rfl,HT.out.back rfl HK.out⟩
     · go_enter Tryz.func101,Tryz.ntmps101
       go_wp2_with fail
       refine hA.mono ?_;rintro e w2 ⟨rfl,R2,k2⟩;obtain ⟨a,hZ⟩ := H.out
       have hLast := fun X (hX : Below w2.heap.size w2 X) => qC (R2.below hX) (by have := a.len; show N.lg.l.length <= 1000000; omega)
       have cn : w2.cell? ⟨p,19,none⟩ = some (.int .i64 (N.nx 1)) := R2.c19;have hp2 := R2.lt;have HR := hdq4 a hZ R2 k2;clear a hZ R2 k2 H hA
       go_wp2_with fail
       refine wp_region_held_drew (S := (fun w' => w'.cell? ⟨p,19,none⟩ = some (.int .i64 (N.nx 1)) /\ Below w2.heap.size w2 w')) (by kernel_rfl) ⟨cn,blq.drew⟩ (fun hHeld => ?_);refine lsq 10 ?_;refine tkq 0 ?_;refine tkq 1 ?_;refine tkq 2 ?_;refine tkq 3 ?_;refine tkq 4 ?_;refine tkq 5 ?_;refine tkq 6 ?_;refine tkq 7 ?_;refine rdq1 8 fun KK hK => ?_;go_simp;refine (hLast _ hHeld.2).mono ?_;rintro e w3 ⟨rfl,hb3⟩;have HB3 := Lib.hid (hHeld.2.trans (hb3.mono hHeld.2.size));clear hb3;refine hK.out _ _ ⟨(HB3.out.cell (p := ⟨p,19,none⟩) hp2).trans cn,HB3.out⟩ ?_;clear hK KK hHeld;intro hHeld
       try simp only [lpq]
       refine tkq 9 ?_;refine dnq ?_;clear hHeld hLast;obtain ⟨a,hZ,R2,k2⟩ := HR.out;have R3 := R2.below HB3.out;have k3 := k2.trans (keeps_below (Z := Z) HB3.out nlq);have hS := qaw R3 (fun b hb => Nat.lt_of_lt_of_le (hZ b hb) k3.size) (by have := a.ms; show N.ms.length < 999999; omega) (by have := a.len; show N.lg.l.length <= 1000000; omega) a.good a.nx a.sd (by have := a.n.2; show N.id < 4; omega) 1 (by omega);have HK := Lib.hid k3;clear a hZ R2 k2 R3 k3 HR cn hp2 HB3
       go_wp2_with fail
       refine hS.mono ?_;rintro e w4 ⟨rfl,hT⟩;have HT := Lib.hid hT;clear hT hS;go_wp2;refine bpq ?_;have e := HGo.out;rw [if_neg (show ¬ false = true by simp),if_pos HL.out] at e;rw [e];exact ⟨rfl,HT.out.back rfl HK.out⟩
     · go_enter Tryz.func101,Tryz.ntmps101
       go_wp2_with fail
       refine hA.mono ?_;rintro e w2 ⟨rfl,R2,k2⟩;obtain ⟨a,hZ⟩ := H.out
       have hLast := fun X (hX : Below w2.heap.size w2 X) => qC (R2.below hX) (by have := a.len; show N.lg.l.length <= 1000000; omega)
       have cn : w2.cell? ⟨p,22,none⟩ = some (.int .i64 (N.nx 2)) := R2.c22;have hp2 := R2.lt;have HR := hdq4 a hZ R2 k2;clear a hZ R2 k2 H hA
       go_wp2_with fail
       refine wp_region_held_drew (S := (fun w' => w'.cell? ⟨p,22,none⟩ = some (.int .i64 (N.nx 2)) /\ Below w2.heap.size w2 w')) (by kernel_rfl) ⟨cn,blq.drew⟩ (fun hHeld => ?_);refine lsq 10 ?_;refine tkq 0 ?_;refine tkq 1 ?_;refine tkq 2 ?_;refine tkq 3 ?_;refine tkq 4 ?_;refine tkq 5 ?_;refine tkq 6 ?_;refine tkq 7 ?_;refine rdq1 8 fun KK hK => ?_;go_simp;refine (hLast _ hHeld.2).mono ?_;rintro e w3 ⟨rfl,hb3⟩;have HB3 := Lib.hid (hHeld.2.trans (hb3.mono hHeld.2.size));clear hb3;refine hK.out _ _ ⟨(HB3.out.cell (p := ⟨p,22,none⟩) hp2).trans cn,HB3.out⟩ ?_;clear hK KK hHeld;intro hHeld
       try simp only [lpq]
       refine tkq 9 ?_;refine dnq ?_;clear hHeld hLast;obtain ⟨a,hZ,R2,k2⟩ := HR.out;have R3 := R2.below HB3.out;have k3 := k2.trans (keeps_below (Z := Z) HB3.out nlq);have hS := qaw R3 (fun b hb => Nat.lt_of_lt_of_le (hZ b hb) k3.size) (by have := a.ms; show N.ms.length < 999999; omega) (by have := a.len; show N.lg.l.length <= 1000000; omega) a.good a.nx a.sd (by have := a.n.2; show N.id < 4; omega) 2 (by omega);have HK := Lib.hid k3;clear a hZ R2 k2 R3 k3 HR cn hp2 HB3
       go_wp2_with fail
       refine hS.mono ?_;rintro e w4 ⟨rfl,hT⟩;have HT := Lib.hid hT;clear hT hS;go_wp2;refine bpq ?_;have e := HGo.out;rw [if_neg (show ¬ false = true by simp),if_pos HL.out] at e;rw [e];exact ⟨rfl,HT.out.back rfl HK.out⟩
   · have e1 : decide (N.nx j <= N.lg.lastI) = false := decide_eq_false hle;have HL := Lib.hid hle;clear hle
     obtain rfl | rfl | rfl : j = 0 \/ j = 1 \/ j = 2 := by omega
     · go_enter Tryz.func101,Tryz.ntmps101
       go_wp2_with fail
       refine hA.mono ?_;rintro e w2 ⟨rfl,R2,k2⟩;obtain ⟨a,hZ⟩ := H.out
       have hLast := fun X (hX : Below w2.heap.size w2 X) => qC (R2.below hX) (by have := a.len; show N.lg.l.length <= 1000000; omega)
       have cn : w2.cell? ⟨p,16,none⟩ = some (.int .i64 (N.nx 0)) := R2.c16;have hp2 := R2.lt;have HR := hdq4 a hZ R2 k2;clear a hZ R2 k2 H hA
       go_wp2_with fail
       refine wp_region_held_drew (S := (fun w' => w'.cell? ⟨p,16,none⟩ = some (.int .i64 (N.nx 0)) /\ Below w2.heap.size w2 w')) (by kernel_rfl) ⟨cn,blq.drew⟩ (fun hHeld => ?_);refine lsq 10 ?_;refine tkq 0 ?_;refine tkq 1 ?_;refine tkq 2 ?_;refine tkq 3 ?_;refine tkq 4 ?_;refine tkq 5 ?_;refine tkq 6 ?_;refine tkq 7 ?_;refine rdq1 8 fun KK hK => ?_;go_simp;refine (hLast _ hHeld.2).mono ?_;rintro e w3 ⟨rfl,hb3⟩;have HB3 := Lib.hid (hHeld.2.trans (hb3.mono hHeld.2.size));clear hb3;refine hK.out _ _ ⟨(HB3.out.cell (p := ⟨p,16,none⟩) hp2).trans cn,HB3.out⟩ ?_;clear hK KK hHeld;intro hHeld
       try simp only [lpq]
       refine tkq 9 ?_;refine dnq ?_;clear hHeld hLast;obtain ⟨a,hZ,R2,k2⟩ := HR.out;have R3 := R2.below HB3.out;have k3 := k2.trans (keeps_below (Z := Z) HB3.out nlq);have HK := hdq2 R3 k3;clear a hZ R2 k2 R3 k3 HR cn hp2 HB3;go_wp2;refine bpq ?_;have e := HGo.out;rw [if_neg (show ¬ false = true by simp),if_neg (Int.not_le.2 HL.out)] at e;rw [e];exact ⟨rfl,q,xs,K,HK.out.1,rfl,HK.out.2⟩
     · go_enter Tryz.func101,Tryz.ntmps101
       go_wp2_with fail
       refine hA.mono ?_;rintro e w2 ⟨rfl,R2,k2⟩;obtain ⟨a,hZ⟩ := H.out
       have hLast := fun X (hX : Below w2.heap.size w2 X) => qC (R2.below hX) (by have := a.len; show N.lg.l.length <= 1000000; omega)
       have cn : w2.cell? ⟨p,19,none⟩ = some (.int .i64 (N.nx 1)) := R2.c19;have hp2 := R2.lt;have HR := hdq4 a hZ R2 k2;clear a hZ R2 k2 H hA
       go_wp2_with fail
       refine wp_region_held_drew (S := (fun w' => w'.cell? ⟨p,19,none⟩ = some (.int .i64 (N.nx 1)) /\ Below w2.heap.size w2 w')) (by kernel_rfl) ⟨cn,blq.drew⟩ (fun hHeld => ?_);refine lsq 10 ?_;refine tkq 0 ?_;refine tkq 1 ?_;refine tkq 2 ?_;refine tkq 3 ?_;refine tkq 4 ?_;refine tkq 5 ?_;refine tkq 6 ?_;refine tkq 7 ?_;refine rdq1 8 fun KK hK => ?_;go_simp;refine (hLast _ hHeld.2).mono ?_;rintro e w3 ⟨rfl,hb3⟩;have HB3 := Lib.hid (hHeld.2.trans (hb3.mono hHeld.2.size));clear hb3;refine hK.out _ _ ⟨(HB3.out.cell (p := ⟨p,19,none⟩) hp2).trans cn,HB3.out⟩ ?_;clear hK KK hHeld;intro hHeld
       try simp only [lpq]
       refine tkq 9 ?_;refine dnq ?_;clear hHeld hLast;obtain ⟨a,hZ,R2,k2⟩ := HR.out;have R3 := R2.below HB3.out;have k3 := k2.trans (keeps_below (Z := Z) HB3.out nlq);have HK := hdq2 R3 k3;clear a hZ R2 k2 R3 k3 HR cn hp2 HB3;go_wp2;refine bpq ?_;have e := HGo.out;rw [if_neg (show ¬ false = true by simp),if_neg (Int.not_le.2 HL.out)] at e;rw [e];exact ⟨rfl,q,xs,K,HK.out.1,rfl,HK.out.2⟩
     · go_enter Tryz.func101,Tryz.ntmps101
       go_wp2_with fail
       refine hA.mono ?_;rintro e w2 ⟨rfl,R2,k2⟩;obtain ⟨a,hZ⟩ := H.out
       have hLast := fun X (hX : Below w2.heap.size w2 X) => qC (R2.below hX) (by have := a.len; show N.lg.l.length <= 1000000; omega)
       have cn : w2.cell? ⟨p,22,none⟩ = some (.int .i64 (N.nx 2)) := R2.c22;have hp2 := R2.lt;have HR := hdq4 a hZ R2 k2;clear a hZ R2 k2 H hA
       go_wp2_with fail
       refine wp_region_held_drew (S := (fun w' => w'.cell? ⟨p,22,none⟩ = some (.int .i64 (N.nx 2)) /\ Below w2.heap.size w2 w')) (by kernel_rfl) ⟨cn,blq.drew⟩ (fun hHeld => ?_);refine lsq 10 ?_;refine tkq 0 ?_;refine tkq 1 ?_;refine tkq 2 ?_;refine tkq 3 ?_;refine tkq 4 ?_;refine tkq 5 ?_;refine tkq 6 ?_;refine tkq 7 ?_;refine rdq1 8 fun KK hK => ?_;go_simp;refine (hLast _ hHeld.2).mono ?_;rintro e w3 ⟨rfl,hb3⟩;have HB3 := Lib.hid (hHeld.2.trans (hb3.mono hHeld.2.size));clear hb3;refine hK.out _ _ ⟨(HB3.out.cell (p := ⟨p,22,none⟩) hp2).trans cn,HB3.out⟩ ?_;clear hK KK hHeld;intro hHeld
       try simp only [lpq]
       refine tkq 9 ?_;refine dnq ?_;clear hHeld hLast;obtain ⟨a,hZ,R2,k2⟩ := HR.out;have R3 := R2.below HB3.out;have k3 := k2.trans (keeps_below (Z := Z) HB3.out nlq);have HK := hdq2 R3 k3;clear a hZ R2 k2 R3 k3 HR cn hp2 HB3;go_wp2;refine bpq ?_;have e := HGo.out;rw [if_neg (show ¬ false = true by simp),if_neg (Int.not_le.2 HL.out)] at e;rw [e];exact ⟨rfl,q,xs,K,HK.out.1,rfl,HK.out.2⟩
end Go.Proofs.YtmiijlecfiddmaaGreat
