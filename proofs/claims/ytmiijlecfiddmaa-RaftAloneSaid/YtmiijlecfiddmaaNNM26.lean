/- What the program's node tells of itself. -/
import Derived.Test.YtmiijlecfiddmaaNNM25
set_option linter.unusedVariables false
set_option linter.unusedSimpArgs false
set_option maxRecDepth 100000
set_option maxHeartbeats 1600000
namespace Go.Proofs.Ytmiijlecfiddmaa
open Go.RowKit Go.Shelf
attribute [local go_sem] Oper.semAt_some
theorem qd3 {N : Node} (hg : Good N.lg) (a b : Int) : N.part a b = if max a (N.lg.i + 1) <= min b N.lg.lastI then N.lg.fromL (max a (N.lg.i + 1)) (min b N.lg.lastI - max a (N.lg.i + 1) + 1) else [] := by
 have hl := hg.lim
 have hL := hg.lastI
 have h1 : N.part a b = (N.lg.l.drop (a - N.lg.i - 1).toNat).filter fun e => decide (e.i < b + 1) := by
  unfold Node.part
  rw [<- qag hg.one a,List.filter_filter]
  apply congrArg (fun f => List.filter f N.lg.l)
  funext e
  have : (decide (e.i <= b)) = decide (e.i < b + 1) := decide_eq_decide.2 (by omega)
  rw [this,Bool.and_comm]
 by_cases hD : (a - N.lg.i - 1).toNat <= N.lg.l.length
 · have ho : qN (N.lg.i + ((a - N.lg.i - 1).toNat : Int)) (N.lg.l.drop (a - N.lg.i - 1).toNat) := fun k hk => by
    have hk' : (a - N.lg.i - 1).toNat + k < N.lg.l.length := by rw [List.length_drop] at hk; omega
    have := hg.one _ hk'
    rw [List.getElem_drop]
    omega
   rw [h1,filter_lt ho]
   by_cases hx : max a (N.lg.i + 1) <= min b N.lg.lastI
   · rw [if_pos hx,hg.from_]
     unfold RL.sub
     have hp : N.lg.place (max a (N.lg.i + 1)) = some (a - N.lg.i - 1).toNat := by
      unfold RL.place
      rw [if_pos (by omega)]
      congr 1
      omega
     rw [hp]
     dsimp only
     by_cases hb : b <= N.lg.lastI
     · congr 1
       omega
     · rw [List.take_of_length_le (by rw [List.length_drop]; omega),List.take_of_length_le (by rw [List.length_drop]; omega)]
   · rw [if_neg hx]
     by_cases hb : b + 1 - (N.lg.i + ((a - N.lg.i - 1).toNat : Int)) - 1 <= 0
     · rw [show (b + 1 - (N.lg.i + ((a - N.lg.i - 1).toNat : Int)) - 1).toNat = 0 by omega]
       rfl
     · rw [List.drop_eq_nil_of_le (by omega)]
       simp
 · rw [h1,List.drop_eq_nil_of_le (by omega),if_neg (by omega)]
   rfl
theorem qcc {w : World} {p : Nat} {N : Node} {Z : Nat -> Prop} {q : Ptrs} {s : Nat} {xs : List MLay} {K : Nat -> Prop} (h : RfAt w p N Z q s xs K) (hg : Good N.lg) (hl : N.lg.l.length <= 1000000) (a b : Int) (ha : -4611686018427387904 <= a /\ a <= 4611686018427387904) (hb : -4611686018427387904 <= b /\ b <= 4611686018427387904) :
 Calls Try.prog 12 #[ptrV p, .int .i64 a, .int .i64 b] w fun e w' => ∃ A' c',e = .returned (.slice A' (N.part a b).length c') /\ Ents w' (fun k => w.heap.size <= k) A' (N.part a b).length c' (N.part a b) /\ Below w.heap.size w w' := by
 rw [qd3 hg]
 have hlim := hg.lim
 have hlast := hg.lastI
 have c8 := h.c8
 have hBase : ∀ X,Below w.heap.size w X -> Calls Try.prog 23 #[ptrV q.l] X fun e w' => e = .returned (.tuple #[.int .i64 N.lg.i, .int .i64 N.lg.t]) /\ Below X.heap.size X w' := fun X hX => by
  obtain ⟨A,c,hr⟩ := (h.below hX).log.rd
  exact qQ hr
 have hLast := fun X (hX : Below w.heap.size w X) => qS (h.below hX) hl
 have hFrom : ∀ X,Below w.heap.size w X -> ∀ x m : Int,Calls Try.prog 30 #[ptrV q.l, .int .i64 x, .int .i64 m] X fun e w' => ∃ A' c',e = .returned (.slice A' (N.lg.fromL x m).length c') /\ Ents w' (fun k => X.heap.size <= k) A' (N.lg.fromL x m).length c' (N.lg.fromL x m) /\ Below X.heap.size X w' := fun X hX x m => by
  obtain ⟨A,c,ls,hla⟩ := (h.below hX).log
  refine (qai hla hl hg x m).mono ?_
  rintro e w' ⟨A',c',h1,h2,_,h3⟩
  exact ⟨A',c',h1,h2,h3⟩
 have hCl : ∀ X,Below w.heap.size w X -> X.cell? ⟨p,8,none⟩ = some (ptrV q.l) := fun X hX => (h.below hX).c8
 have y1 : IntKind.i64.wrap (N.lg.i + 1) = N.lg.i + 1 := IntWalk.i64_in _ (by omega)
 have y2 : IntKind.i64.wrap (min b N.lg.lastI - max a (N.lg.i + 1)) = min b N.lg.lastI - max a (N.lg.i + 1) := IntWalk.i64_in _ (by omega)
 have y3 : IntKind.i64.wrap (min b N.lg.lastI - max a (N.lg.i + 1) + 1) = min b N.lg.lastI - max a (N.lg.i + 1) + 1 := IntWalk.i64_in _ (by omega)
 obtain ⟨LI,hLI⟩ : ∃ LI,N.lg.lastI = LI := ⟨_,rfl⟩
 obtain ⟨BI,hBI⟩ : ∃ BI,N.lg.i = BI := ⟨_,rfl⟩
 rw [hLI] at hLast y2 y3
 rw [hBI] at hBase y1 y2 y3
 rw [hLI,hBI]
 obtain ⟨ES,hES⟩ : ∃ ES,(if max a (BI + 1) <= min b LI then N.lg.fromL (max a (BI + 1)) (min b LI - max a (BI + 1) + 1) else []) = ES := ⟨_,rfl⟩
 rw [hES]
 have HES := Lib.hid hES
 clear h hlim hlast hLI hBI ha hb hES
 go_enter Try.func12,Try.ntmps12
 go_wp2_with fail
 refine (hBase w blq).mono ?_
 rintro e w2 ⟨rfl,hb2⟩
 have c82 := hCl w2 hb2
 have hLast := hLast w2 hb2
 go_wp2_with fail
 refine hLast.mono ?_
 rintro e w3 ⟨rfl,hb3⟩
 have hb3' := hb2.trans (hb3.mono hb2.size)
 have c83 := hCl w3 hb3'
 by_cases hle : max a (BI + 1) <= min b LI
 · have e1 : decide (min b LI < max a (BI + 1)) = false := decide_eq_false (by omega)
   have hFrom := hFrom w3 hb3' (max a (BI + 1)) (min b LI - max a (BI + 1) + 1)
   have hx := HES.out
   rw [if_pos hle] at hx
   rw [hx] at hFrom
   clear hle hBase hCl hx
   go_wp2_with fail
   refine hFrom.mono ?_
   rintro e w4 ⟨A',c',rfl,hE,hb4⟩
   go_wp2
   go_ret
   exact ⟨A',c',rfl,hE.mono fun k hk => Nat.le_trans hb3'.size hk,hb3'.trans (hb4.mono hb3'.size)⟩
 · have e1 : decide (min b LI < max a (BI + 1)) = true := decide_eq_true (by omega)
   have hx := HES.out
   rw [if_neg hle] at hx
   have HX := Lib.hid hx
   clear hle hBase hCl hFrom hx
   go_wp2
   go_ret
   rw [<- HX.out]
   exact ⟨none,0,rfl,qO _ _,hb3'⟩
end Go.Proofs.Ytmiijlecfiddmaa
set_option linter.unusedVariables false
set_option linter.unusedSimpArgs false
set_option maxRecDepth 100000
set_option maxHeartbeats 3200000
namespace Go.Proofs.Ytmiijlecfiddmaa
open Go.RowKit Go.Shelf
attribute [local go_sem] Oper.semAt_some
theorem qdp (id n : Nat) (ht hv : Int) (sn : Ent) (l : List Ent) (E4 : Option Addr) (k4 pl : Nat) : rfC (Node.fresh id n ht hv sn l) ⟨E4,k4,pl,none,0,none,0,none,0⟩ = #[.int .i64 (id : Int), .int .i64 (n : Int), .int .i64 ht, .int .i64 hv, .int .i64 sn.i, .int .i64 sn.t, .slice E4 sn.d.length k4, .bool false,ptrV pl, .int .i64 sn.i, .int .i64 0, .int .i64 (-1), .int .i64 0,
 .int .i64 0, .int .i64 0, .int .i64 0, .int .i64 0, .int .i64 0, .int .i64 0, .int .i64 0, .int .i64 0, .int .i64 0, .int .i64 0, .int .i64 0, .int .i64 0, .int .i64 0, .slice none 0 0, .slice none 0 0, .slice none 0 0] := rfl
theorem qcd (id n : Nat) (ht hv : Int) (sn : Ent) (l : List Ent) (E : Option Addr) (c : Nat) (A : Option Addr) (cA : Nat) (Z : Nat -> Prop) (w : World)
 (hn : 1 <= n /\ n <= 3 /\ id < n) (hh : qF ht hv = true) (hsb : qG sn.i sn.t sn.d.length = true) (hbase : RL.base sn.i sn.t = true) (hrun : runB sn.i sn.t l = true) (hlt : (⟨sn.i,sn.t,l,0⟩ : RL).lastT <= ht)
 (hE : Lies w E sn.d.length c sn.d) (hEz : 0 < sn.d.length -> ∀ g o,E = some ⟨g,o,none⟩ -> g < w.heap.size) (hsd : sn.d.length <= 50000) (hA : Ents w Z A l.length cA l) (hl : l.length <= 1000000) :
 Calls Try.prog 6 #[.int .i64 (id : Int), .int .i64 (n : Int), .agg #[.int .i64 ht, .int .i64 hv], .agg #[.int .i64 sn.i, .int .i64 sn.t, .slice E sn.d.length c], .slice A l.length cA] w
  fun e w' => ∃ p q s K,e = .returned (.tuple #[ptrV p, .int .i64 0]) /\ RfAt w' p (Node.fresh id n ht hv sn l) (fun b => b < w.heap.size) q s [] K /\ frel (⟨sn.i,sn.t,l,0⟩ : RL) s /\ Below w.heap.size w w' := by
 have hHard := fun W => qbN ht hv W
 have hSnap := fun W => qbO sn.i sn.t E sn.d.length c W
 rw [hh] at hHard
 rw [hsb] at hSnap
 obtain ⟨W1,hW1⟩ : ∃ W1,(w.alloc (.cells #[.int .i64 ht, .int .i64 hv] 23)).alloc (.cells #[.int .i64 sn.i, .int .i64 sn.t, .slice E sn.d.length c] 26) = W1 := ⟨_,rfl⟩
 have hb1 : Below w.heap.size w W1 := by rw [<- hW1]; exact (blq.alloc nlq _).alloc (by simp) _
 have hr1 : W1.heap[w.heap.size]? = some (.cells #[.int .i64 ht, .int .i64 hv] 23) := by rw [<- hW1]; exact (Below.heap_alloc _ _ _ (by simp)).trans (heap_alloc_new w _)
 have hr2 : W1.heap[w.heap.size + 1]? = some (.cells #[.int .i64 sn.i, .int .i64 sn.t, .slice E sn.d.length c] 26) := by rw [<- hW1]; exact heap_alloc2_new w _ _
 have hsz : W1.heap.size = w.heap.size + 2 := by rw [<- hW1]; simp
 have h0 : ∀ W,Below W1.heap.size W1 W -> W.cell? ⟨w.heap.size,0,none⟩ = some (.int .i64 ht) /\ W.cell? ⟨w.heap.size,1,none⟩ = some (.int .i64 hv) /\ W.cell? ⟨w.heap.size + 1,0,none⟩ = some (.int .i64 sn.i) /\ W.cell? ⟨w.heap.size + 1,1,none⟩ = some (.int .i64 sn.t) /\ W.cell? ⟨w.heap.size + 1,2,none⟩ = some (.slice E sn.d.length c) := fun W hW => by
  have x1 := (hW.block _ (by omega)).trans hr1
  have x2 := (hW.block _ (by omega)).trans hr2
  exact ⟨qa x1 0 _ rfl,qa x1 1 _ rfl,qa x2 0 _ rfl,qa x2 1 _ rfl,qa x2 2 _ rfl⟩
 have e1 : decide ((n : Int) < 1) = false := decide_eq_false (by omega)
 have e2 : decide (3 < (n : Int)) = false := decide_eq_false (by omega)
 have e3 : decide ((id : Int) < 0) = false := decide_eq_false (by omega)
 have e4 : decide ((n : Int) <= (id : Int)) = false := decide_eq_false (by omega)
 have e4' : decide (n <= id) = false := decide_eq_false (by omega)
 have hNew := fun W (hW : Below w.heap.size w W) => qbP sn.i sn.t Z A l.length cA l W (hA.below hW nlq) hl hbase hrun
 obtain ⟨a0,a1,a2,a3,a4⟩ := h0 W1 blq
 have HH := Lib.hid (And.intro hb1 (And.intro h0 (And.intro hE (And.intro hEz (And.intro hsd (And.intro hl hlt))))))
 clear hb1 h0 hE hEz hsd hl hlt hn hh hsb hbase hrun hA hr1 hr2
 go_enter Try.func6,Try.ntmps6
 go_wp2_with fail
 refine (hHard _).mono ?_
 rintro e w2 ⟨rfl,hb2⟩
 obtain ⟨b0,b1,b2,b3,b4⟩ := HH.out.2.1 w2 hb2
 have HB2 := Lib.hid hb2
 clear hHard a0 a1 a2 a3 a4 hb2
 go_wp2_with fail
 refine (hSnap _).mono ?_
 rintro e w3 ⟨rfl,hb3⟩
 have hb13 := HB2.out.trans (hb3.mono HB2.out.size)
 obtain ⟨a0,a1,a2,a3,a4⟩ := HH.out.2.1 w3 hb13
 have hN := hNew w3 (HH.out.1.trans (hb13.mono (by omega)))
 have HB3 := Lib.hid hb13
 clear hSnap b0 b1 b2 b3 b4 hb3 hb13 hNew
 go_wp2_with fail
 refine hN.mono ?_
 rintro e w4 ⟨pl,rfl,hlg,hb4⟩
 have hb14 := HB3.out.trans (hb4.mono HB3.out.size)
 obtain ⟨b0,b1,b2,b3,b4⟩ := HH.out.2.1 w4 hb14
 obtain ⟨AA,cc,hrd⟩ := hlg.rd
 have hLa := qR hrd HH.out.2.2.2.2.2.1
 have HB4 := Lib.hid (And.intro hb14 (And.intro hlg hb4))
 clear a0 a1 a2 a3 a4 hb4 hb14 hN hlg hrd
 go_wp2_with fail
 refine hLa.mono ?_
 rintro e w5 ⟨rfl,hb5⟩
 have hb15 := HB4.out.1.trans (hb5.mono HB4.out.1.size)
 obtain ⟨a0,a1,a2,a3,a4⟩ := HH.out.2.1 w5 hb15
 have e5 : decide (ht < (⟨sn.i,sn.t,l,0⟩ : RL).lastT) = false := decide_eq_false (by have := HH.out.2.2.2.2.2.2; omega)
 have HB5 := Lib.hid (And.intro hb15 hb5)
 have hCo := fun W (hW : Below W1.heap.size W1 W) => qL sn.i sn.t E sn.d.length c sn.d W (HH.out.2.2.1.below (HH.out.1.trans (hW.mono (by omega))) nlq) (by have := HH.out.2.2.2.2.1; omega)
 have hKS : ∀ W,Below W1.heap.size W1 W -> (fun w' : World => w'.cell? ⟨w.heap.size,0,none⟩ = some (.int .i64 ht) /\ w'.cell? ⟨w.heap.size,1,none⟩ = some (.int .i64 hv) /\ w'.cell? ⟨w.heap.size + 1,0,none⟩ = some (.int .i64 sn.i) /\ w'.cell? ⟨w.heap.size + 1,1,none⟩ = some (.int .i64 sn.t) /\ w'.cell? ⟨w.heap.size + 1,2,none⟩ = some (.slice E sn.d.length c) /\ Below W1.heap.size W1 w') W := fun W hW => ⟨(HH.out.2.1 W hW).1,(HH.out.2.1 W hW).2.1,(HH.out.2.1 W hW).2.2.1,(HH.out.2.1 W hW).2.2.2.1,(HH.out.2.1 W hW).2.2.2.2,hW⟩
 have HK := Lib.hid hKS
 clear b0 b1 b2 b3 b4 hb5 hb15 hLa hKS
 generalize (⟨sn.i,sn.t,l,0⟩ : RL).lastT = LT at *
 generalize (⟨sn.i,sn.t,l,0⟩ : RL).lastI = LI at *
 go_wp2_with fail
 refine wp_region_held_drew (S := (fun w' => w'.cell? ⟨w.heap.size,0,none⟩ = some (.int .i64 ht) /\ w'.cell? ⟨w.heap.size,1,none⟩ = some (.int .i64 hv) /\ w'.cell? ⟨w.heap.size + 1,0,none⟩ = some (.int .i64 sn.i) /\ w'.cell? ⟨w.heap.size + 1,1,none⟩ = some (.int .i64 sn.t) /\ w'.cell? ⟨w.heap.size + 1,2,none⟩ = some (.slice E sn.d.length c) /\ Below W1.heap.size W1 w')) (by kernel_rfl) (HK.out _ (HB5.out.1.drew)) (fun hHeld => ?_)
 change wpAnyH _ _ _ _ _ 12 #[false,false,false,false,false,false,false,false,false,false,false,false] _ _
 refine tkq 0 ⟨some 62, .move (.tmp 0),3, "raft.go:85",#[],none⟩ ?_ ?_ ?_
 rotate_left
 · (intro w h; (try dsimp only at h); go_simp); (try with_reducible rfl)
 try simp only [lpq]
 refine tkq 1 ⟨some 63, .move (.tmp 1),3, "raft.go:85",#[],none⟩ ?_ ?_ ?_
 rotate_left
 · (intro w h; (try dsimp only at h); go_simp); (try with_reducible rfl)
 try simp only [lpq]
 refine tkq 2 ⟨some 64, .load 23 (.tmp 7),23, "raft.go:85",#[],none⟩ ?_ ?_ ?_
 rotate_left
 · (intro w h; (try dsimp only at h); go_simp); (try with_reducible rfl)
 try simp only [lpq]
 refine tkq 3 ⟨some 65, .load 26 (.tmp 8),26, "raft.go:85",#[],none⟩ ?_ ?_ ?_
 rotate_left
 · (intro w h; (try dsimp only at h); go_simp); (try with_reducible rfl)
 try simp only [lpq]
 refine tkq 5 ⟨some 67, .move (.tmp 12),56, "raft.go:85",#[],none⟩ ?_ ?_ ?_
 rotate_left
 · (intro w h; (try dsimp only at h); go_simp); (try with_reducible rfl)
 try simp only [lpq]
 refine tkq 6 ⟨some 68, .fieldAddr 26 (.tmp 8) 0,0, "raft.go:85",#[],none⟩ ?_ ?_ ?_
 rotate_left
 · (intro w h; (try dsimp only at h); go_simp); (try with_reducible rfl)
 try simp only [lpq]
 refine tkq 7 ⟨some 69, .load 2 (.tmp 68),2, "raft.go:85",#[⟨6, .data⟩],none⟩ ?_ ?_ ?_
 rotate_left
 · (intro w h; (try dsimp only at h); go_simp); (try with_reducible rfl)
 try simp only [lpq]
 refine wpAnyH_ready (rs := [4]) (by kernel_rfl) (by simp) ?_
 refine AllReadyH.cons (o := ⟨some 66, .call ⟨.value (.func 18),#[.tmp 65],#[26]⟩,26, "raft.go:85",#[⟨3, .data⟩],none⟩) rfl (fun KK hK => ?_) AllReadyH.nil
 go_simp
 refine (hCo _ hHeld.2.2.2.2.2).mono ?_
 rintro e w6 ⟨E4,k4,rfl,hlay,hblk,hb6⟩
 have hb16 := hHeld.2.2.2.2.2.trans (hb6.mono hHeld.2.2.2.2.2.size)
 have HL := Lib.hid (And.intro hlay (And.intro hblk (And.intro hb6 hb16)))
 refine hK.out _ _ (HK.out _ hb16) (fun hHeld2 => ?_)
 clear hK KK hHeld
 have hHeld := hHeld2
 clear hHeld2
 try simp only [lpq]
 clear hlay hblk hb6 hCo
 refine tkq 8 ⟨some 70, .build 68 #[(0, .tmp 62),(1, .tmp 63),(2, .tmp 64),(3, .tmp 66),(5, .tmp 67),(6, .tmp 69),(8, .const (.int .i64 (-1)))],68, "raft.go:85",#[⟨0, .data⟩,⟨1, .data⟩,⟨2, .data⟩,⟨4, .data⟩,⟨5, .data⟩,⟨7, .data⟩],none⟩ ?_ ?_ ?_
 rotate_left
 · (intro w h; (try dsimp only at h); go_simp); (try with_reducible rfl)
 try simp only [lpq]
 refine wpAnyH_ready (rs := [9]) (by kernel_rfl) (by simp) ?_
 refine AllReadyH.cons (o := ⟨some 71, .box 68 (.tmp 70),32, "raft.go:85",#[⟨8, .data⟩],none⟩) rfl (fun KK hK => ?_) AllReadyH.nil
 go_simp
 refine hK.out _ _ (HK.out _ (hb16.alloc hb16.size _)) (fun hHeld2 => ?_)
 clear hK KK hHeld
 have hHeld := hHeld2
 clear hHeld2
 try simp only [lpq]
 clear hb16
 refine tkq 10 ⟨some 10, .assign (.tmp 71),32, "raft.go:85",#[⟨9, .data⟩,⟨4, .chain⟩,⟨0, .phase⟩,⟨1, .phase⟩,⟨2, .phase⟩,⟨3, .phase⟩,⟨4, .phase⟩,⟨5, .phase⟩,⟨6, .phase⟩,⟨7, .phase⟩,⟨8, .phase⟩,⟨9, .phase⟩],none⟩ ?_ ?_ ?_
 rotate_left
 · (intro w h; (try dsimp only at h); go_simp); (try with_reducible rfl)
 try simp only [lpq]
 refine tkq 11 ⟨some 11, .assign (.const (.int .i64 0)),33, "raft.go:85",#[⟨10, .chain⟩,⟨0, .phase⟩,⟨1, .phase⟩,⟨2, .phase⟩,⟨3, .phase⟩,⟨4, .phase⟩,⟨5, .phase⟩,⟨6, .phase⟩,⟨7, .phase⟩,⟨8, .phase⟩,⟨9, .phase⟩,⟨10, .phase⟩],none⟩ ?_ ?_ ?_
 rotate_left
 · (intro w h; (try dsimp only at h); go_simp); (try with_reducible rfl)
 try simp only [lpq]
 refine wpAnyH_done (by kernel_rfl) ?_ _
 clear hHeld
 go_wp2
 go_ret2
 obtain ⟨hlay,hblk,hb6,hb16⟩ := HL.out
 obtain ⟨hb14,hlg,hb4⟩ := HB4.out
 obtain ⟨hb15,hb5⟩ := HB5.out
 have z3 := HB3.out.size
 have z5 := hb5.size
 have z6 := hb6.size
 have z4 := hb4.size
 have zd : w5.drew.heap.size = w5.heap.size := rfl
 have hb46 : Below w4.heap.size w4 (w6.alloc (.cells #[.int .i64 (id : Int), .int .i64 (n : Int), .int .i64 ht, .int .i64 hv, .int .i64 sn.i, .int .i64 sn.t, .slice E4 sn.d.length k4, .bool false,ptrV pl, .int .i64 sn.i, .int .i64 0, .int .i64 (-1), .int .i64 0, .int .i64 0, .int .i64 0, .int .i64 0, .int .i64 0, .int .i64 0, .int .i64 0, .int .i64 0, .int .i64 0, .int .i64 0, .int .i64 0, .int .i64 0, .int .i64 0, .int .i64 0, .slice none 0 0, .slice none 0 0, .slice none 0 0] 68)) := (hb5.trans (blq.drew.trans (hb6.mono (by omega)))).alloc (by omega) _
 have hla := heap_alloc_new w6 (.cells #[.int .i64 (id : Int), .int .i64 (n : Int), .int .i64 ht, .int .i64 hv, .int .i64 sn.i, .int .i64 sn.t, .slice E4 sn.d.length k4, .bool false,ptrV pl, .int .i64 sn.i, .int .i64 0, .int .i64 (-1), .int .i64 0, .int .i64 0, .int .i64 0, .int .i64 0, .int .i64 0, .int .i64 0, .int .i64 0, .int .i64 0, .int .i64 0, .int .i64 0, .int .i64 0, .int .i64 0, .int .i64 0, .int .i64 0, .slice none 0 0, .slice none 0 0, .slice none 0 0] 68)
 have hsz7 : (w6.alloc (.cells #[.int .i64 (id : Int), .int .i64 (n : Int), .int .i64 ht, .int .i64 hv, .int .i64 sn.i, .int .i64 sn.t, .slice E4 sn.d.length k4, .bool false,ptrV pl, .int .i64 sn.i, .int .i64 0, .int .i64 (-1), .int .i64 0, .int .i64 0, .int .i64 0, .int .i64 0, .int .i64 0, .int .i64 0, .int .i64 0, .int .i64 0, .int .i64 0, .int .i64 0, .int .i64 0, .int .i64 0, .int .i64 0, .int .i64 0, .slice none 0 0, .slice none 0 0, .slice none 0 0] 68)).heap.size = w6.heap.size + 1 := by simp
 have hEL : 0 < sn.d.length -> ∀ b,blk E4 b -> b < w6.heap.size := fun h0 b ⟨o,e⟩ => by
  obtain ⟨g',o',e',hg',_⟩ := hlay.2.1.2.2.2 h0
  cases (Option.some.inj (e.symm.trans e'))
  exact hg'
 refine ⟨w6.heap.size,⟨E4,k4,pl,none,0,none,0,none,0⟩,l.length,fun b => 0 < sn.d.length /\ blk E4 b,rfl,?_, .inl ⟨rfl,rfl⟩,?_⟩
 · exact {
    row := by rw [qdp]; exact hla
    away := by show ¬ w6.heap.size < w.heap.size; omega
    kz := fun b hb => by
     have h1 := hblk b hb.2
     have h2 := hEL hb.1 b hb.2
     exact ⟨by show ¬ b < w.heap.size; omega,by omega,by rw [hsz7]; omega⟩
    rz := fun b hb => absurd hb (qu b)
    mz := fun b hb => absurd hb (qu b)
    tz := fun b hb => absurd hb (qu b)
    log := (hlg.grow.below hb46).mono fun b hb => by
     rcases hb with hb | hb | hb | hb | hb | hb
     · exact .inl (by show b < w3.heap.size; have : b < w.heap.size := hb; omega)
     · exact .inr (by show w4.heap.size <= b; omega)
     · exact .inr (by have := hblk b hb.2; show w4.heap.size <= b; omega)
     · exact absurd hb (qu b)
     · exact absurd hb (qu b)
     · exact absurd hb (qu b)
    rds := Sp.nil _ _ _
    tds := Sp.nil _ _ _
    mss := Sp.nil _ _ _
    map := rfl
    msg := fun x hx => by cases hx
    snp := hlay.2.1.below ((Below.refl w6.heap.size w6).alloc nlq _) nlq
    snk := fun h0 g o e => ⟨h0,o,e⟩ }
 · exact HH.out.1.trans ((hb16.alloc hb16.size _).mono (by omega))
end Go.Proofs.Ytmiijlecfiddmaa
