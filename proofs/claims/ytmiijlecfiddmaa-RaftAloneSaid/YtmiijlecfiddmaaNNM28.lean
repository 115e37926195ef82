/- A node that is nil. -/
import Derived.Test.YtmiijlecfiddmaaNNM27
import Derived.Test.YtmiijlecfiddmaaNNM26
import Derived.Test.YtmiijlecfiddmaaNNM02
import Derived.Test.YtmiijlecfiddmaaNNM09
set_option linter.unusedVariables false
set_option linter.unusedSimpArgs false
set_option maxRecDepth 100000
set_option maxHeartbeats 200000
namespace Go.Proofs.Ytmiijlecfiddmaa
open Go.RowKit Go.Shelf
attribute [local go_sem] Oper.semAt_some
end Go.Proofs.Ytmiijlecfiddmaa
set_option linter.unusedVariables false
set_option linter.unusedSimpArgs false
set_option maxRecDepth 100000
set_option maxHeartbeats 3200000
namespace Go.Proofs.Ytmiijlecfiddmaa
open Go.RowKit Go.Shelf
attribute [local go_sem] Oper.semAt_some
def oneN : Nat -> Node
 | 0 => Node.fresh 0 1 0 (-1) Node.noEnt []
 | k + 1 => (oneN k).tick
theorem qam : (oneN 6).ro = 3 /\ (oneN 6).cm = 1 := by decide
theorem qcf : ∀ k : Nat,k <= 5 -> oneN k = { Node.fresh 0 1 0 (-1) Node.noEnt [] with wk := (k : Int) }
 | 0,_ => rfl
 | k + 1,hk => by
   show (oneN k).tick = _
   rw [qcf k (by omega),qb8 (by show ¬ (0 : Int) = 3; decide) (.inl (by show (k : Int) + 1 < 6 + 3 * ((0 : Nat) : Int); omega))]
   rfl
theorem qds (a0 a1 a2 a3 a4 a5 a6 a7 a8 a9 : Value) (w : World) : (Instr.field 38 (.agg #[a0,a1,a2,a3,a4,a5,a6,a7,a8,a9]) 0).run Try.prog w = .ok a0 w := by kernel_rfl
theorem qbv (a0 a1 a2 a3 a4 a5 a6 a7 a8 a9 : Value) (w : World) : (Instr.field 38 (.agg #[a0,a1,a2,a3,a4,a5,a6,a7,a8,a9]) 4).run Try.prog w = .ok a5 w := by kernel_rfl
theorem qdt : Good (⟨0,0,[],0⟩ : RL) := ⟨rfl,rfl⟩
theorem qdu {w : World} {p : Nat} {Z : Nat -> Prop} {q : Ptrs} {s : Nat} {xs : List MLay} {K : Nat -> Prop} (k : Nat) (hk : k <= 5) (h : RfAt w p (oneN k) Z q s xs K) (hZ : ∀ b,Z b -> b < w.heap.size) :
 Calls Try.prog 7 #[ptrV p] w fun e w' => e = .returned (.tuple #[]) /\ Turned w w' p (oneN (k + 1)) Z q s := by
 show Calls _ _ _ _ fun e w' => _ /\ Turned w w' p (oneN k).tick Z q s
 have e := qcf k hk
 rw [e] at h ⊢
 exact qbt h hZ (by show (0 : Nat) < 999990; decide) (by show (0 : Nat) <= 400000; decide) qdt ⟨by show 1 <= 3; decide,by show 0 < 1; decide⟩ (by show (0 : Nat) <= 50000; decide) (fun _ => ⟨rfl,rfl,rfl,rfl,rfl⟩) ⟨by show (0 : Int) <= 0; decide,by show (0 : Int) <= 2199023255552; decide⟩
  ⟨by show (0 : Int) <= (k : Int); omega,by show (k : Int) <= 2199023255552; omega⟩ (fun _ => ⟨by show (-4611686018427387904 : Int) <= 0; decide,by show (0 : Int) <= 4611686018427387904; decide⟩) (by show (0 : Int) <= 0; decide)
theorem qaB : (oneN 6).lg.l.length <= 1000000 /\ (oneN 6).n <= 3 := by decide
theorem qB (w : World) : Calls Try.prog 4 #[] w fun e w' => e = .returned (.bool true) /\ Below w.heap.size w w' := by
 have hN := qcd 0 1 0 (-1) Node.noEnt [] none 0 none 0 (fun _ => False) w ⟨by decide,by decide,by decide⟩ (by decide) (by decide) (by decide) (by decide) (by decide) (Lies.nil _) (fun h0 => absurd h0 (by decide)) (by decide) (qO _ _) (by decide)
 go_enter Try.func4,Try.ntmps4
 go_wp2_with fail
 refine hN.mono ?_
 rintro e w2 ⟨p,q,s,K,rfl,R2,_,hb2⟩
 have HR := Lib.hid (And.intro R2 hb2)
 clear R2 hb2 hN
 go_wp2_with fail
 go_loopw [11] (fun v11 wr => ∃ k : Nat,k <= 6 /\ v11 = .int .i64 (k : Int) /\ ∃ q s xs K,RfAt wr p (oneN k) (fun b => b < w.heap.size) q s xs K /\ qf (fun b => b < w.heap.size) w wr) (fun v11 _ => 6 - (intOf v11).toNat)
 case atStart => exact ⟨0,Nat.zero_le _,rfl,q,s,[],K,HR.out.1,qe HR.out.2 nlq⟩
 case round =>
  obtain ⟨k,hk,rfl,q',s',xs',K',R,hkk⟩ := hrel
  by_cases hlt2 : k < 6
  · have e1 : decide ((k : Int) < 6) = true := decide_eq_true (by omega)
    have hT := qdu k (by omega) R (fun b hb => Nat.lt_of_lt_of_le hb hkk.size)
    have HK := Lib.hid hkk
    clear R hkk
    go_wp2_with fail
    refine hT.mono ?_
    rintro e w3 ⟨rfl,hTd⟩
    have HT := Lib.hid hTd
    clear hTd hT
    go_wp2
    go_roundw
    case rel =>
     obtain ⟨q3,xs3,K3,R3,_,k3⟩ := HT.out
     exact ⟨k + 1,by omega,by go_num,q3,s',xs3,K3,R3,HK.out.trans k3⟩
    case measure =>
     simp [intOf]
     omega
  · obtain rfl : k = 6 := by omega
    have hS := q9 R qaB.1 qaB.2
    rw [qam.1,qam.2] at hS
    have HK := Lib.hid (And.intro R hkk)
    clear R hkk
    have hf0 := qds
    have hf4 := qbv
    go_wp2_with fail
    refine hS.mono ?_
    rintro e w3 ⟨NA,nc,MA,mc,rfl,_,_,_,_,hb3⟩
    obtain ⟨R,hkk⟩ := HK.out
    have hS2 := q9 (R.below hb3) qaB.1 qaB.2
    rw [qam.1,qam.2] at hS2
    have HB := Lib.hid hb3
    clear R hkk hb3 hS
    go_wp2_with fail
    refine hS2.mono ?_
    rintro e w4 ⟨NA',nc',MA',mc',rfl,_,_,_,_,hb4⟩
    go_wp2
    go_ret
    have z := HK.out.2.size
    have z2 := HB.out.size
    have h0 : Below w.heap.size w wr := ⟨HK.out.2.os,HK.out.2.tape,HK.out.2.output,z,fun b hb => HK.out.2.block b hb hb⟩
    exact ⟨rfl,(h0.trans (HB.out.mono z)).trans (hb4.mono (by omega))⟩
end Go.Proofs.Ytmiijlecfiddmaa
set_option linter.unusedVariables false
set_option linter.unusedSimpArgs false
set_option maxRecDepth 100000
set_option maxHeartbeats 3200000
namespace Go.Proofs.Ytmiijlecfiddmaa
open Go.RowKit Go.Shelf
attribute [local go_sem] Oper.semAt_some
theorem qd5 (id n : Nat) (ht hv : Int) (sn : Ent) (l : List Ent) (E : Option Addr) (c : Nat) (A : Option Addr) (cA : Nat) (Z : Nat -> Prop) (w : World)
 (hn : 1 <= n /\ n <= 3 /\ id < n) (hno : qF ht hv = false \/ (qF ht hv = true /\ qG sn.i sn.t sn.d.length = false) \/ (qF ht hv = true /\ qG sn.i sn.t sn.d.length = true /\ ht < (⟨sn.i,sn.t,l,0⟩ : RL).lastT)) (hbase : qG sn.i sn.t sn.d.length = true -> RL.base sn.i sn.t = true) (hrun : runB sn.i sn.t l = true)
 (hE : Lies w E sn.d.length c sn.d) (hEz : 0 < sn.d.length -> ∀ g o,E = some ⟨g,o,none⟩ -> g < w.heap.size) (hsd : sn.d.length <= 50000) (hA : Ents w Z A l.length cA l) (hl : l.length <= 1000000) :
 Calls Try.prog 6 #[.int .i64 (id : Int), .int .i64 (n : Int), .agg #[.int .i64 ht, .int .i64 hv], .agg #[.int .i64 sn.i, .int .i64 sn.t, .slice E sn.d.length c], .slice A l.length cA] w
  fun e w' => e = .returned (.tuple #[.pointer none, .int .i64 1]) /\ Below w.heap.size w w' := by
 have hHard := fun W => qbN ht hv W
 have hSnap := fun W => qbO sn.i sn.t E sn.d.length c W
 obtain ⟨W1,hW1⟩ : ∃ W1,(w.alloc (.cells #[.int .i64 ht, .int .i64 hv] 23)).alloc (.cells #[.int .i64 sn.i, .int .i64 sn.t, .slice E sn.d.length c] 26) = W1 := ⟨_,rfl⟩
 have hb1 : Below w.heap.size w W1 := by rw [<- hW1]; exact (blq.alloc nlq _).alloc (by simp) _
 have hr1 : W1.heap[w.heap.size]? = some (.cells #[.int .i64 ht, .int .i64 hv] 23) := by rw [<- hW1]; exact (Below.heap_alloc _ _ _ (by simp)).trans (heap_alloc_new w _)
 have hr2 : W1.heap[w.heap.size + 1]? = some (.cells #[.int .i64 sn.i, .int .i64 sn.t, .slice E sn.d.length c] 26) := by rw [<- hW1]; exact heap_alloc2_new w _ _
 have hsz : W1.heap.size = w.heap.size + 2 := by rw [<- hW1]; simp
 have h0 : ∀ W,Below W1.heap.size W1 W -> W.cell? ⟨w.heap.size,0,none⟩ = some (.int .i64 ht) /\ W.cell? ⟨w.heap.size,1,none⟩ = some (.int .i64 hv) /\ W.cell? ⟨w.heap.size + 1,0,none⟩ = some (.int .i64 sn.i) /\ W.cell? ⟨w.heap.size + 1,1,none⟩ = some (.int .i64 sn.t) /\ W.cell? ⟨w.heap.size + 1,2,none⟩ = some (.slice E sn.d.length c) := fun W hW => by
  have x1 := (hW.block _ (by omega)).trans hr1
  have x2 := (hW.block _ (by omega)).trans hr2
  exact ⟨qa x1 0 _ rfl,qa x1 1 _ rfl,qa x2 0 _ rfl,qa x2 1 _ rfl,qa x2 2 _ rfl⟩
 have e1 : decide ((n : Int) < 1) = false := decide_eq_false (by omega)
 have e2 : decide (3 < (n : Int)) = false := decide_eq_false (by omega)
 have e3 : decide ((id : Int) < 0) = false := decide_eq_false (by omega)
 have e4 : decide ((n : Int) <= (id : Int)) = false := decide_eq_false (by omega)
 have e4' : decide (n <= id) = false := decide_eq_false (by omega)
 have hNew := fun W (hW : Below w.heap.size w W) => fun hb => qbP sn.i sn.t Z A l.length cA l W (hA.below hW nlq) hl hb hrun
 obtain ⟨a0,a1,a2,a3,a4⟩ := h0 W1 blq
 have HH := Lib.hid (And.intro hb1 (And.intro h0 (And.intro hE (And.intro hEz (And.intro hsd (And.intro hl hbase))))))
 clear hb1 h0 hE hEz hsd hl hn hbase hrun hA hr1 hr2
 rcases hno with hh | ⟨hh,hsb⟩ | ⟨hh,hsb,hlt⟩
 · rw [hh] at hHard
   clear hSnap hNew hh
   go_enter Try.func6,Try.ntmps6
   go_wp2_with fail
   refine (hHard _).mono ?_
   rintro e w2 ⟨rfl,hb2⟩
   go_wp2
   go_ret2
   exact ⟨rfl,HH.out.1.trans (hb2.mono (by omega))⟩
 · rw [hh] at hHard
   rw [hsb] at hSnap
   clear hNew hh hsb
   go_enter Try.func6,Try.ntmps6
   go_wp2_with fail
   refine (hHard _).mono ?_
   rintro e w2 ⟨rfl,hb2⟩
   obtain ⟨b0,b1,b2,b3,b4⟩ := HH.out.2.1 w2 hb2
   have HB2 := Lib.hid hb2
   clear hHard a0 a1 a2 a3 a4 hb2
   go_wp2_with fail
   refine (hSnap _).mono ?_
   rintro e w3 ⟨rfl,hb3⟩
   go_wp2
   go_ret2
   have z := HB2.out.size
   exact ⟨rfl,HH.out.1.trans ((HB2.out.trans (hb3.mono z)).mono (by omega))⟩
 · rw [hh] at hHard
   have hNew := fun W hW => hNew W hW (HH.out.2.2.2.2.2.2 hsb)
   rw [hsb] at hSnap
   have HLT := Lib.hid hlt
   clear hh hsb hlt
   go_enter Try.func6,Try.ntmps6
   go_wp2_with fail
   refine (hHard _).mono ?_
   rintro e w2 ⟨rfl,hb2⟩
   obtain ⟨b0,b1,b2,b3,b4⟩ := HH.out.2.1 w2 hb2
   have HB2 := Lib.hid hb2
   clear hHard a0 a1 a2 a3 a4 hb2
   go_wp2_with fail
   refine (hSnap _).mono ?_
   rintro e w3 ⟨rfl,hb3⟩
   have hb13 := HB2.out.trans (hb3.mono HB2.out.size)
   obtain ⟨a0,a1,a2,a3,a4⟩ := HH.out.2.1 w3 hb13
   have hN := hNew w3 (HH.out.1.trans (hb13.mono (by omega)))
   have HB3 := Lib.hid hb13
   clear hSnap b0 b1 b2 b3 b4 hb3 hb13 hNew
   go_wp2_with fail
   refine hN.mono ?_
   rintro e w4 ⟨pl,rfl,hlg,hb4⟩
   have hb14 := HB3.out.trans (hb4.mono HB3.out.size)
   obtain ⟨b0,b1,b2,b3,b4⟩ := HH.out.2.1 w4 hb14
   obtain ⟨AA,cc,hrd⟩ := hlg.rd
   have hLa := qR hrd HH.out.2.2.2.2.2.1
   have HB4 := Lib.hid hb14
   clear a0 a1 a2 a3 a4 hb4 hb14 hN hlg hrd
   go_wp2_with fail
   refine hLa.mono ?_
   rintro e w5 ⟨rfl,hb5⟩
   have hb15 := HB4.out.trans (hb5.mono HB4.out.size)
   obtain ⟨a0,a1,a2,a3,a4⟩ := HH.out.2.1 w5 hb15
   have e5 : decide (ht < (⟨sn.i,sn.t,l,0⟩ : RL).lastT) = true := decide_eq_true HLT.out
   have HB5 := Lib.hid hb15
   clear b0 b1 b2 b3 b4 hb5 hb15 hLa
   generalize (⟨sn.i,sn.t,l,0⟩ : RL).lastT = LT at *
   generalize (⟨sn.i,sn.t,l,0⟩ : RL).lastI = LI at *
   go_wp2
   go_ret2
   exact ⟨rfl,HH.out.1.trans (HB5.out.mono (by omega))⟩
end Go.Proofs.Ytmiijlecfiddmaa
set_option linter.unusedVariables false
set_option linter.unusedSimpArgs false
set_option maxRecDepth 100000
set_option maxHeartbeats 200000
namespace Go.Proofs.Ytmiijlecfiddmaa
open Go.RowKit
def Rec1 (w : World) (Z : Nat -> Prop) (v : Value) (l : List UInt8) : Prop :=
 ∃ E c,v = .slice E l.length c /\ c <= maxLen /\ Lies w E l.length c l /\ (0 < l.length -> ∀ g off,E = some ⟨g,off,none⟩ -> Z g)
def Recs (w : World) (Z : Nat -> Prop) (A : Option Addr) (len cap : Nat) (ls : List (List UInt8)) : Prop :=
 ls.length = len /\ len <= cap /\ (A = none -> cap = 0) /\ (0 < len -> ∃ g off,A = some ⟨g,off,none⟩ /\ g < w.heap.size /\ Z g ∧
  ∀ j (hj : j < ls.length),∃ v,w.cell? ⟨g,off + j,none⟩ = some v /\ Rec1 w Z v ls[j])
section
variable {w w' : World} {Z Z' : Nat → Prop} {v : Value} {l : List UInt8} {A : Option Addr} {len cap : Nat} {ls : List (List UInt8)}
theorem Rec1.keep (h : Rec1 w Z v l) (hs : w.heap.size <= w'.heap.size) (hk : ∀ k,k < w.heap.size -> Z k -> w'.heap[k]? = w.heap[k]?) : Rec1 w' Z v l := by
 obtain ⟨E,c,e,hc,hl,hz⟩ := h
 exact ⟨E,c,e,hc,hl.keep hs fun h0 g off e hg => hk g hg (hz h0 g off e),hz⟩
theorem Rec1.mono (h : Rec1 w Z v l) (hz : ∀ k,Z k -> Z' k) : Rec1 w Z' v l := by
 obtain ⟨E,c,e,hc,hl,hz'⟩ := h
 exact ⟨E,c,e,hc,hl,fun h0 g off e => hz _ (hz' h0 g off e)⟩
theorem Recs.keep (h : Recs w Z A len cap ls) (hs : w.heap.size <= w'.heap.size) (hk : ∀ k,k < w.heap.size -> Z k -> w'.heap[k]? = w.heap[k]?) : Recs w' Z A len cap ls := by
 refine ⟨h.1,h.2.1,h.2.2.1,fun h0 => ?_⟩
 obtain ⟨g,off,e,hg,hz,hc⟩ := h.2.2.2 h0
 refine ⟨g,off,e,Nat.lt_of_lt_of_le hg hs,hz,fun j hj => ?_⟩
 obtain ⟨v,hv,hr⟩ := hc j hj
 exact ⟨v,(World.cell?_of_block (w := w) (hk g hg hz)).trans hv,hr.keep hs hk⟩
theorem Recs.mono (h : Recs w Z A len cap ls) (hz : ∀ k,Z k -> Z' k) : Recs w Z' A len cap ls := by
 refine ⟨h.1,h.2.1,h.2.2.1,fun h0 => ?_⟩
 obtain ⟨g,off,e,hg,hz',hc⟩ := h.2.2.2 h0
 refine ⟨g,off,e,hg,hz _ hz',fun j hj => ?_⟩
 obtain ⟨v,hv,hr⟩ := hc j hj
 exact ⟨v,hv,hr.mono hz⟩
theorem Recs.below (h : Recs w Z A len cap ls) {B : Nat} (hb : Below B w w') (hB : w.heap.size <= B) : Recs w' Z A len cap ls :=
 h.keep hb.size fun k hk _ => hb.block k (Nat.lt_of_lt_of_le hk hB)
theorem Recs.keeps (h : Recs w Z A len cap ls) {Y : Nat -> Prop} (hk : qf Y w w') (hz : ∀ k,Z k -> Y k) : Recs w' Z A len cap ls :=
 h.keep hk.size fun k hk' hz' => hk.block k hk' (hz k hz')
theorem Recs.nil (w : World) (Z : Nat -> Prop) : Recs w Z none 0 0 [] := ⟨rfl,Nat.le_refl _,fun _ => rfl,fun h => absurd h (by omega)⟩
theorem Recs.at_ (h : Recs w Z A len cap ls) (j : Nat) (hj : j < len) : ∃ g off E c,A = some ⟨g,off,none⟩ /\ g < w.heap.size /\ Z g /\ w.cell? ⟨g,off + j,none⟩ = some (.slice E (ls[j]'(by rw [h.1]; exact hj)).length c) /\ c <= maxLen ∧
 Lies w E (ls[j]'(by rw [h.1]; exact hj)).length c (ls[j]'(by rw [h.1]; exact hj)) := by
 obtain ⟨g,off,e,hg,hz,hc⟩ := h.2.2.2 (by omega)
 obtain ⟨v,hv,E,c,rfl,hm,hl,_⟩ := hc j (by rw [h.1]; exact hj)
 exact ⟨g,off,E,c,e,hg,hz,hv,hm,hl⟩
end
open Go.ChangeShapes Go.WideShapes Go.ChangeAt Go.Deep
section
variable {H : Type} {enc : TypeId × Value → H} {W : World} {sp : Nat → Bool} {hd : Bool}
theorem arg_recs {base : Nat} {v : Value} {d : DataW H} {p : List MemPlace}
 (hok : Value.okWide Try.prog W .any base 28 v) (h : DataW.Trod enc Try.prog W 0 sp hd 28 v d p) (hlt : ∀ x ∈ p,x.block < W.heap.size) :
 ∃ (A : Option Addr) (len cap : Nat) (ls : List (List UInt8)),v = .slice A len cap /\ cap <= maxLen /\ Recs W (· < W.heap.size) A len cap ls := by
 have hnone : ∀ (c : Nat) (len : Nat),v = .slice none len c -> c = 0 := fun c len e => by
  subst e
  obtain ⟨fuel,hf⟩ := h
  rcases open_slice Try.underlying28 hf with ⟨hcs,hx⟩ | ⟨a,len',cap',m,n,D,Pl,hcs,_⟩
  · simp [Value.cells] at hcs; omega
  · simp [Value.cells] at hcs
 obtain ⟨A,len,cap,n,Cs,D,rfl,hl,hm,hrow,hel⟩ := qbH Try.underlying28 (by kernel_rfl) (C := 1) (by omega) hok h hlt
 obtain ⟨R,hR⟩ := Classical.axiomOfChoice (r := fun j r => j < len -> ∃ E c,Cs j = [.slice E r.length c] /\ c <= maxLen /\ Lies W E r.length c r /\ (0 < r.length -> ∀ a,E = some a -> a.block < W.heap.size)) (fun j => by
  by_cases hj : j < len
  · obtain ⟨hcl,pl,hd,hp⟩ := hel j hj
    obtain ⟨v,hv⟩ : ∃ v,Cs j = [v] := by
     cases hc : Cs j with
     | nil => rw [hc] at hcl; simp at hcl
     | cons v t =>
       rw [hc] at hcl
       cases t with
       | nil => exact ⟨v,rfl⟩
       | cons _ _ => simp at hcl
    rw [hv] at hd
    obtain ⟨E,el,c,r,rfl,hc,hlies,hz⟩ := qaY Try.underlying24 Try.underlying5 (by kernel_rfl) hd hp
    obtain rfl : r.length = el := hlies.1
    exact ⟨r,fun _ => ⟨E,c,hv,hc,hlies,hz⟩⟩
  · exact ⟨[],fun h => absurd h hj⟩)
 refine ⟨A,len,cap,(List.range len).map R,rfl,hm,by simp,hl,fun e => hnone cap len (by rw [e]),fun hpos => ?_⟩
 obtain ⟨g,off,e,hg,hc⟩ := hrow hpos
 refine ⟨g,off,e,hg,hg,fun j hj => ?_⟩
 have hj' : j < len := by simpa using hj
 obtain ⟨E,c,e1,e2,e3,e4⟩ := hR j hj'
 refine ⟨.slice E (R j).length c,?_,?_⟩
 · have := hc j hj' 0 (.slice E (R j).length c) (by rw [e1]; rfl)
   rwa [Nat.mul_one,Nat.add_zero] at this
 · simp only [List.getElem_map,List.getElem_range]
   exact ⟨E,c,rfl,e2,e3,fun h0 g off e => e4 h0 _ e⟩
end
end Go.Proofs.Ytmiijlecfiddmaa
set_option linter.unusedVariables false
set_option linter.unusedSimpArgs false
set_option maxRecDepth 100000
set_option maxHeartbeats 3200000
namespace Go.Proofs.Ytmiijlecfiddmaa.raftAlone
open Go.RowKit Go.Shelf Go.Proofs.Ytmiijlecfiddmaa
attribute [local go_sem] Oper.semAt_some
structure Base (w W : World) (ht hv si st : Int) (E : Option Addr) (n c : Nat) : Prop where
 h : W.heap[w.heap.size]? = some (.cells #[.int .i64 ht, .int .i64 hv] 23)
 s : W.heap[w.heap.size + 1]? = some (.cells #[.int .i64 si, .int .i64 st, .slice E n c] 26)
 below : Below w.heap.size w W
section
variable {w W W' : World} {ht hv si st : Int} {E : Option Addr} {n c : Nat}
theorem Base.size (h : Base w W ht hv si st E n c) : w.heap.size + 2 <= W.heap.size := by
 have := hlt h.s
 omega
theorem Base.next (h : Base w W ht hv si st E n c) (hb : Below W.heap.size W W') : Base w W' ht hv si st E n c :=
 ⟨(hb.block _ (hlt h.h)).trans h.h,(hb.block _ (hlt h.s)).trans h.s,h.below.trans (hb.mono h.below.size)⟩
theorem Base.kept (h : Base w W ht hv si st E n c) (hk : qf (fun b => b < W.heap.size) W W') : Base w W' ht hv si st E n c :=
 ⟨(hk.block _ (hlt h.h) (hlt h.h)).trans h.h,(hk.block _ (hlt h.s) (hlt h.s)).trans h.s,h.below.trans ⟨hk.os,hk.tape,hk.output,hk.size,fun b hb => hk.block b (Nat.lt_of_lt_of_le hb h.below.size) (Nat.lt_of_lt_of_le hb h.below.size)⟩⟩
theorem Base.made (w : World) (ht hv si st : Int) (E : Option Addr) (n c : Nat) : Base w ((w.alloc (.cells #[.int .i64 ht, .int .i64 hv] 23)).alloc (.cells #[.int .i64 si, .int .i64 st, .slice E n c] 26)) ht hv si st E n c :=
 ⟨(Below.heap_alloc _ _ _ (by simp)).trans (heap_alloc_new _ _),heap_alloc2_new _ _ _,(blq.alloc nlq _).alloc (by simp) _⟩
end
theorem tick {w : World} {p : Nat} {Z : Nat -> Prop} {q : Ptrs} {s : Nat} {xs : List MLay} {K : Nat -> Prop} {ht hv : Int} {sn : Ent} {l : List Ent} (k : Nat) (hk : k <= 5) (h : RfAt w p (fr1 ht hv sn l k) Z q s xs K) (hZ : ∀ b,Z b -> b < w.heap.size)
 (hg : Good (⟨sn.i,sn.t,l,0⟩ : RL)) (hT : 0 <= ht /\ ht < 1099511627776) (hlt : (⟨sn.i,sn.t,l,0⟩ : RL).lastT <= ht) (hl : l.length <= 400000) (hsd : sn.d.length <= 50000) :
 Calls Try.prog 7 #[ptrV p] w fun e w' => e = .returned (.tuple #[]) /\ Turned w w' p (fr1 ht hv sn l (k + 1)) Z q s := by
 show Calls _ _ _ _ fun e w' => _ /\ Turned w w' p (fr1 ht hv sn l k).tick Z q s
 have e := qbg ht hv sn l k hk
 rw [e] at h ⊢
 exact qbt h hZ (by show (0 : Nat) < 999990; decide) hl hg ⟨by show 1 <= 3; decide,by show 0 < 1; decide⟩ hsd (fun _ => ⟨rfl,rfl,rfl,rfl,rfl⟩) ⟨hT.1,by show ht <= _; omega⟩
  ⟨by show (0 : Int) <= (k : Int); omega,by show (k : Int) <= 2199023255552; omega⟩ (fun _ => ⟨by show (-4611686018427387904 : Int) <= 0; decide,by show (0 : Int) <= 4611686018427387904; decide⟩) hlt
theorem able {N : Node} {T : Int} (h : One N T) (hT : 1 <= T /\ T <= 1099511627776) (hl : N.lg.l.length <= 300000) (hsd : N.sn.d.length <= 50000) (hli : N.lg.lastI < 1099511627776) : Able N where
 n := by rw [h.me.1,h.me.2]; decide
 ms := by rw [h.ms]; exact Nat.zero_le _
 len := hl
 good := h.good
 sd := hsd
 idle := fun e => absurd h.ro e
 ht := by rw [h.ht]; omega
 lt := by rw [h.lt,h.ht]; exact Int.le_refl _
 li := hli
 wk := by rw [h.wk]; decide
 cx := by rw [h.cx]; decide
 cm := by
  have := h.good.lim
  have := h.good.lastI
  rw [h.cm]
  omega
 nx := fun j => by rw [h.nx j]; decide
 ma := fun j => by rw [h.ma j]; decide
 td := by rw [h.td,h.rd]; exact Nat.zero_le _
 up := fun _ => by rw [h.ht]; exact hT.1
 r1 := fun e => absurd (h.ro.symm.trans e) (by decide)
theorem qed {w : World} {g o : Nat} {v : Value} (h : w.cell? ⟨g,o,none⟩ = some v) : g < w.heap.size := World.block_lt_of_cell? w ⟨g,o,none⟩ h
theorem qaQ {i t : Int} {n : Nat} (h : qG i t n = true) : RL.base i t = true := by
 rw [qab]
 unfold qG at h
 split at h
 · rename_i e
   omega
 · unfold numB at h
   simp only [Bool.and_eq_true,decide_eq_true_eq] at h
   omega
theorem qdK {t v : Int} (h : qF t v = true) : 0 <= t := by
 unfold qF at h
 simp only [Bool.and_eq_true,decide_eq_true_eq] at h
 exact h.1
structure Goes (w wr : World) (p : Nat) (Z : Nat -> Prop) (T : Int) (P : List Ent) (rs : List (List UInt8)) (L0 : Int) (sn : Ent) (k : Nat) (N : Node) (q : Ptrs) (s : Nat) (xs : List MLay) (K : Nat -> Prop) (es : List Ent) : Prop where
 R : RfAt wr p N Z q s xs K
 fr : frel N.lg s
 one : One N T
 l : N.lg.l = P ++ es
 d : es.map (·.d) = rs.take k
 n : es.length = k
 li : N.lg.lastI = L0 + (k : Int)
 sn_ : N.sn = sn
 kp : qf Z w wr
theorem Goes.below {w wr w' : World} {p : Nat} {Z : Nat -> Prop} {T : Int} {P : List Ent} {rs : List (List UInt8)} {L0 : Int} {sn : Ent} {k : Nat} {N : Node} {q : Ptrs} {s : Nat} {xs : List MLay} {K : Nat -> Prop} {es : List Ent} (h : Goes w wr p Z T P rs L0 sn k N q s xs K es) (hb : Below wr.heap.size wr w') : Goes w w' p Z T P rs L0 sn k N q s xs K es :=
 { h with R := h.R.below hb,kp := h.kp.trans (qe hb nlq) }
end Go.Proofs.Ytmiijlecfiddmaa.raftAlone
