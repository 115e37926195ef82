/- The program's rightBase, Base, Last, place, Term, Newer, each by its contract. -/
import Derived.Test.YtmiijlecfiddmaaNNM05
import Derived.RegionTactic
import Derived.StillTailTactics
import Derived.Outline
import Derived.Test.YtmiijlecfiddmaaNNM02
import Derived.Lib.SliceRun
set_option linter.unusedVariables false
set_option linter.unusedSimpArgs false
set_option maxRecDepth 100000
set_option maxHeartbeats 1600000
namespace Go.Proofs.Ytmiijlecfiddmaa
open Go.RowKit
theorem qbA (i t : Int) (w : World) : Calls Try.prog 33 #[.int .i64 i, .int .i64 t] w fun e w' => e = .returned (.bool (RL.base i t)) /\ w = w' := by
 unfold RL.base
 by_cases h1 : 0 <= i
 · rw [decide_eq_true h1,Bool.true_and]
   by_cases h2 : i <= 1099511627776
   · rw [decide_eq_true h2,Bool.true_and]
     by_cases h3 : 0 <= t
     · rw [decide_eq_true h3,Bool.true_and]
       go_enter Try.func33,Try.ntmps33
       go_wp2
       go_ret
       exact ⟨rfl,rfl⟩
     · have e1 : decide (0 <= t) = false := decide_eq_false h3
       have e2 : (0 <= t) = False := eq_false h3
       rw [e1,Bool.false_and]
       clear h3
       go_enter Try.func33,Try.ntmps33
       go_wp2
       go_ret
       exact ⟨rfl,rfl⟩
   · have e1 : decide (i <= 1099511627776) = false := decide_eq_false h2
     have e2 : (i <= 1099511627776) = False := eq_false h2
     rw [e1,Bool.false_and]
     clear h2
     go_enter Try.func33,Try.ntmps33
     go_wp2
     go_ret
     exact ⟨rfl,rfl⟩
 · have e1 : decide (0 <= i) = false := decide_eq_false h1
   have e2 : (0 <= i) = False := eq_false h1
   rw [e1,Bool.false_and]
   clear h1
   go_enter Try.func33,Try.ntmps33
   go_wp2
   go_ret
   exact ⟨rfl,rfl⟩
theorem qQ {w : World} {p : Nat} {r : RL} {s : Nat} {A : Option Addr} {n c : Nat} (h : Rd w p r s A n c) : Calls Try.prog 23 #[ptrV p] w fun e w' => e = .returned (.tuple #[.int .i64 r.i, .int .i64 r.t]) /\ Below w.heap.size w w' := by
 obtain ⟨c0,c1,c2,c3⟩ := h.cells
 clear h
 go_enter Try.func23,Try.ntmps23
 go_wp2
 go_big_quiet (fail)
 go_wp2
 go_ret2
 exact ⟨rfl,below_drewN (Below.refl _ _) _⟩
theorem qR {w : World} {p : Nat} {r : RL} {s : Nat} {A : Option Addr} {n c : Nat} (h : Rd w p r s A n c) (hm : n <= 1000000) : Calls Try.prog 17 #[ptrV p] w fun e w' => e = .returned (.tuple #[.int .i64 r.lastI, .int .i64 r.lastT]) /\ Below w.heap.size w w' := by
 obtain ⟨c0,c1,c2,c3⟩ := h.cells
 have hll := h.ents.1
 by_cases h0 : n = 0
 · subst h0
   obtain ⟨e1,e2⟩ := qcT (r := r) (List.eq_nil_of_length_eq_zero hll)
   rw [e1,e2]
   have hB := qQ h
   clear h hll e1 e2
   go_enter Try.func17,Try.ntmps17
   go_wp2_with fail
   refine hB.mono ?_
   rintro e w1 ⟨rfl,hb1⟩
   go_wp2
   go_ret2
   exact ⟨rfl,hb1⟩
 · obtain ⟨e1,e2⟩ := qcU (r := r) (by omega)
   obtain ⟨m,hmm⟩ : ∃ m,m = n - 1 := ⟨_,rfl⟩
   have hl2 : r.l.length - 1 = m := by omega
   simp only [hl2] at e1 e2
   rw [e1,e2]
   obtain ⟨g,off,E,k,rfl,hg,x0,x1,x2,_⟩ := h.ents.at_ m (by omega)
   have hne : ((n : Int) == 0) = false := beq_eq_false_iff_ne.2 (by omega)
   have hne2 : ((n : Int) = 0) = False := eq_false (by omega)
   have hw : wrap64 ((n : Int) - 1) = (m : Int) := by rw [<- IntWalk.i64_left,IntWalk.i64_in _ (by omega)]; omega
   have hw2 : IntKind.i64.wrap ((n : Int) - 1) = (m : Int) := by rw [IntWalk.i64_in _ (by omega)]; omega
   have hlt1 : (m : Int) < (n : Int) := by omega
   have hlt2 : m < n := by omega
   generalize (r.l[m]'(by omega)) = a at *
   obtain ⟨ai,at_,ad⟩ := a
   dsimp only at *
   have hp := hlt h.row
   have hb2 : Below w.heap.size w (w.alloc (.cells #[.int .i64 ai, .int .i64 at_, .slice E ad.length k] 31)).drew := ((Below.refl _ _).alloc (Nat.le_refl _) _).drew
   clear h hm h0 hll e1 e2 hl2 hmm
   go_enter Try.func17,Try.ntmps17
   go_wp2
   go_region
   all_goals
    go_wp2
    go_big_quiet (fail)
    go_wp2
    go_ret2
    exact ⟨rfl,below_drewN hb2 _⟩
end Go.Proofs.Ytmiijlecfiddmaa
set_option linter.unusedVariables false
set_option linter.unusedSimpArgs false
set_option maxRecDepth 100000
set_option maxHeartbeats 1600000
namespace Go.Proofs.Ytmiijlecfiddmaa
open Go.RowKit
abbrev plcV (o : Option Nat) : Value := .tuple #[.int .i64 ((o.getD 0 : Nat) : Int), .bool o.isSome]
theorem qba {w : World} {p : Nat} {r : RL} {s : Nat} {A : Option Addr} {n c : Nat} (h : Rd w p r s A n c) (hm : n <= 1000000) (hg : Good r) (x : Int) :
 Calls Try.prog 48 #[ptrV p, .int .i64 x] w fun e w' => e = .returned (plcV (r.place x)) /\ Below w.heap.size w w' := by
 have hL := qR h hm
 have hlim := hg.lim
 have hli := hg.lastI
 rw [h.ents.1] at hlim hli
 have hpl : r.place x = if r.i < x /\ x <= r.lastI then some (x - r.i - 1).toNat else none := by
  unfold RL.place
  rw [h.ents.1,hli]
 rw [hpl]
 have h2 := fun w1 (hb : Below w.heap.size w w1) => (h.below hb).cells
 generalize r.lastI = li at *
 generalize r.lastT = lt at *
 clear hpl h hg
 by_cases h1 : r.i < x
 · have q1 : (x <= r.i) = False := eq_false (by omega)
   have q1d : decide (x <= r.i) = false := decide_eq_false (by omega)
   by_cases h3 : x <= li
   · rw [if_pos ⟨h1,h3⟩]
     have q2 : (li < x) = False := eq_false (by omega)
     have q2d : decide (li < x) = false := decide_eq_false (by omega)
     obtain ⟨k,hk⟩ : ∃ k,k = (x - r.i - 1).toNat := ⟨_,rfl⟩
     obtain ⟨J,hJ⟩ : ∃ J,J = x - r.i := ⟨_,rfl⟩
     have y1 : wrap64 (x - r.i) = J := by rw [hJ,<- IntWalk.i64_left,IntWalk.i64_in _ (by omega)]
     have y2 : wrap64 (J - 1) = (k : Int) := by rw [<- IntWalk.i64_left,IntWalk.i64_in _ (by omega)]; omega
     rw [<- hk]
     clear hk hJ h1 h3 hlim hli hm
     go_enter Try.func48,Try.ntmps48
     go_wp2_with fail
     refine hL.mono ?_
     rintro e w1 ⟨rfl,hb1⟩
     obtain ⟨c0,c1,c2,c3⟩ := h2 w1 hb1
     go_wp2
     go_ret2
     refine ⟨?_,hb1⟩
     show Ending.returned (.tuple #[.int .i64 (wrap64 (J - 1)), .bool true]) = _
     rw [y2]
     rfl
   · rw [if_neg (fun e => h3 e.2)]
     have q2 : li < x := by omega
     clear h1 h3 hlim hli hm
     go_enter Try.func48,Try.ntmps48
     go_wp2_with fail
     refine hL.mono ?_
     rintro e w1 ⟨rfl,hb1⟩
     obtain ⟨c0,c1,c2,c3⟩ := h2 w1 hb1
     go_wp2
     go_ret2
     exact ⟨rfl,hb1⟩
 · rw [if_neg (fun e => h1 e.1)]
   have q1 : x <= r.i := by omega
   clear h1 hlim hli hm
   go_enter Try.func48,Try.ntmps48
   go_wp2_with fail
   refine hL.mono ?_
   rintro e w1 ⟨rfl,hb1⟩
   obtain ⟨c0,c1,c2,c3⟩ := h2 w1 hb1
   go_wp2
   go_ret2
   exact ⟨rfl,hb1⟩
theorem qah {w : World} {p : Nat} {r : RL} {s : Nat} {A : Option Addr} {n c : Nat} (h : Rd w p r s A n c) (hm : n <= 1000000) (hg : Good r) (x : Int) :
 Calls Try.prog 46 #[ptrV p, .int .i64 x] w fun e w' => e = .returned (atV (r.at_ x)) /\ Below w.heap.size w w' := by
 obtain ⟨c0,c1,c2,c3⟩ := h.cells
 rw [hg.at_]
 by_cases hx : x = r.i
 · rw [if_pos hx]
   subst hx
   clear h hg hm
   go_enter Try.func46,Try.ntmps46
   go_wp2
   go_ret2
   exact ⟨rfl,Below.refl _ _⟩
 · rw [if_neg hx]
   have q1 : (x == r.i) = false := beq_eq_false_iff_ne.2 hx
   have q2 : (x = r.i) = False := eq_false hx
   have hP := qba h hm hg x
   have h2 := fun w1 (hb : Below w.heap.size w w1) => h.below hb
   have hpk : ∀ k,r.place x = some k -> k < n := fun k e => by
    unfold RL.place at e
    have := h.ents.1
    split at e
    · injection e with e
      omega
    · cases e
   cases hp : r.place x with
   | none =>
     rw [hp] at hP
     clear h hg hm hx hpk hp
     go_enter Try.func46,Try.ntmps46
     go_wp2_with fail
     refine hP.mono ?_
     rintro e w1 ⟨rfl,hb1⟩
     clear h2
     go_wp2
     go_ret2
     exact ⟨rfl,hb1⟩
   | some k =>
     rw [hp] at hP
     have hk := hpk k hp
     have hll := h.ents.1
     have e1 : (Option.bind (some k) fun k => r.l[k]?.map Ent.t) = some (r.l[k]'(by omega)).t := by
      simp only [Option.bind_some,List.getElem?_eq_getElem (show k < r.l.length by omega),Option.map_some]
     rw [e1]
     have hk2 : (k : Int) < (n : Int) := by omega
     obtain ⟨a,ha⟩ : ∃ a,r.l[k]'(by omega) = a := ⟨_,rfl⟩
     have h3 : ∀ w1,Below w.heap.size w w1 -> ∃ g off E cc,A = some ⟨g,off,none⟩ /\ g < w1.heap.size /\ w1.cell? ⟨g,off + k * 3,none⟩ = some (.int .i64 a.i) /\ w1.cell? ⟨g,off + k * 3 + 1,none⟩ = some (.int .i64 a.t) /\ w1.cell? ⟨g,off + k * 3 + 2,none⟩ = some (.slice E a.d.length cc) := fun w1 hb => by
      obtain ⟨g,off,E,cc,e,hg,x0,x1,x2,_⟩ := (h2 w1 hb).ents.at_ k hk
      rw [ha] at x0 x1
      simp only [ha] at x2
      exact ⟨g,off,E,cc,e,hg,x0,x1,x2⟩
     have h4 := fun w1 (hb : Below w.heap.size w w1) => (h2 w1 hb).cells
     rw [ha]
     clear h hg hm hx hpk hp e1 h2 hll ha
     go_enter Try.func46,Try.ntmps46
     go_wp2_with fail
     refine hP.mono ?_
     rintro e w1 ⟨rfl,hb1⟩
     obtain ⟨g,off,E,cc,rfl,hg,x0,x1,x2⟩ := h3 w1 hb1
     obtain ⟨d0,d1,d2,d3⟩ := h4 w1 hb1
     clear hP h3 h4
     go_wp2
     go_ret2
     exact ⟨rfl,hb1⟩
end Go.Proofs.Ytmiijlecfiddmaa
set_option linter.unusedVariables false
set_option linter.unusedSimpArgs false
set_option maxRecDepth 100000
set_option maxHeartbeats 200000
namespace Go.Proofs.Ytmiijlecfiddmaa
open Go.RowKit
theorem qbn (A : Option Addr) (len cap : Nat) (l : List UInt8) (w : World) (h : Lies w A len cap l) (hb : l.length <= 140737488355328) :
 Calls Try.prog 36 #[.slice A len cap] w fun e w' => ∃ v,e = .returned v /\ Owns 5 w' w.heap.size v l /\ Below w.heap.size w w' := by
 have hq : ∀ (w : World) (a : Option Addr) (n c n' c' : Nat),(binOp .eql 24 (.slice a n c) (.slice none n' c')).run Try.prog w = .ok (.bool a.isNone) w := fun w a n c n' c' => Go.Lib.run_eql_slice_nil w _ _ a n c n' c' Try.underlying24
 obtain ⟨i0,hi0,hz0,hz1,hz2⟩ := info_parts qdL
 cases A with
 | none =>
   have := h.2.2.1 rfl
   have h1 := h.1
   have h2 := h.2.1
   obtain rfl : l = [] := List.eq_nil_of_length_eq_zero (by omega)
   clear h hi0 hz0 hz1 hz2
   go_enter Try.func36,Try.ntmps36
   go_wp2
   go_ret
   exact ⟨_,rfl,Owns.nil _ _ _,Below.refl _ _⟩
 | some a =>
   go_enter Try.func36,Try.ntmps36
   go_wp2_with (at_builtin; refine qaD _ rfl _ _ 24 rfl 5 i0 Try.underlying24 hi0 hz0 hz1 hz2 w.heap.size (by simp) (.slice (some ⟨w.heap.size,0,none⟩) 0 0) [] rfl (World.ownsRow_made _ #[] 0 (Nat.le_refl _) (Nat.zero_le _) rfl) (some a) len cap l rfl (h.below ((Below.refl _ _).alloc (Nat.le_refl _) _) (Nat.le_refl _)) (by simpa using hb) ?_)
   intro v1 w1 ho hg _
   have hbw := ((Below.refl w.heap.size w).alloc (Nat.le_refl _) (.cells #[] 5)).grown hg (by simp) (fun k e => by injection e with e; have e' : w.heap.size = k := e; omega)
   clear hg h
   go_wp2
   go_ret
   exact ⟨_,rfl,ho,hbw⟩
end Go.Proofs.Ytmiijlecfiddmaa
set_option linter.unusedVariables false
set_option linter.unusedSimpArgs false
set_option maxRecDepth 100000
set_option maxHeartbeats 1600000
namespace Go.Proofs.Ytmiijlecfiddmaa
open Go.RowKit
theorem qbM {T : TypeId} {w : World} {base : Nat} {A : Option Addr} {n cap : Nat} {l : List UInt8} (h : Owns T w base (.slice A n cap) l) : cap <= maxLen := by
 rcases h.2 with ⟨e,_⟩ | ⟨g,cp,cur,e,_,_,_,hcm,_⟩
 · injection e with _ _ e3; omega
 · injection e with _ _ e3; omega
theorem qau (i t : Int) (A : Option Addr) (n c : Nat) (d : List UInt8) (w : World) (h : Lies w A n c d) (hb : n <= 140737488355328) :
 Calls Try.prog 44 #[.agg #[.int .i64 i, .int .i64 t, .slice A n c]] w fun e w' => ∃ E k,e = .returned (.agg #[.int .i64 i, .int .i64 t, .slice E n k]) /\ qh w' (fun q => w.heap.size + 2 <= q) ⟨⟨i,t,d⟩,E,k⟩ /\ (∀ q,blk E q -> w.heap.size + 2 <= q) /\ Below w.heap.size w w' := by
 obtain rfl := h.1
 have hA2 : Below w.heap.size w ((w.alloc (.cells #[.int .i64 i, .int .i64 t, .slice A d.length c] 31)).alloc (.cells #[.int .i64 0, .int .i64 0, .slice none 0 0] 31)) := ((Below.refl _ _).alloc (Nat.le_refl _) _).alloc (by simp) _
 have hr1 : ((w.alloc (.cells #[.int .i64 i, .int .i64 t, .slice A d.length c] 31)).alloc (.cells #[.int .i64 0, .int .i64 0, .slice none 0 0] 31)).heap[w.heap.size]? = some (.cells #[.int .i64 i, .int .i64 t, .slice A d.length c] 31) := (Below.heap_alloc _ _ _ (by simp)).trans (heap_alloc_new _ _)
 have hr2 := heap_alloc2_new w (.cells #[.int .i64 i, .int .i64 t, .slice A d.length c] 31) (.cells #[.int .i64 0, .int .i64 0, .slice none 0 0] 31)
 have hC := qbn A d.length c d _ (h.below hA2 (Nat.le_refl _)) (by omega)
 simp only [World.size_alloc] at hC
 clear h hb
 go_enter Try.func44,Try.ntmps44
 go_wp2_with fail
 refine hC.mono ?_
 rintro e w3 ⟨v,rfl,ho,hb3⟩
 have hb3' : Below ((w.alloc (.cells #[.int .i64 i, .int .i64 t, .slice A d.length c] 31)).alloc (.cells #[.int .i64 0, .int .i64 0, .slice none 0 0] 31)).heap.size ((w.alloc (.cells #[.int .i64 i, .int .i64 t, .slice A d.length c] 31)).alloc (.cells #[.int .i64 0, .int .i64 0, .slice none 0 0] 31)) w3 := by simpa using hb3
 have hs1 := (hb3'.block _ (hlt hr1)).trans hr1
 have hs2 := (hb3'.block _ (hlt hr2)).trans hr2
 have hbw := hA2.trans (hb3'.mono hA2.size)
 obtain ⟨E,k,rfl,hl,hE⟩ := qaF ho
 have hcap := qbM ho
 have hown := Owns.lt ho
 obtain ⟨⟨a0,a1,a2⟩,⟨f0,f1,f2⟩⟩ := row3 hs1
 obtain ⟨_,⟨g0,g1,g2⟩⟩ := row3 hs2
 have hne : w.heap.size + 1 ≠ w.heap.size := by omega
 have t1 := (Below.heap_setCell w3 ⟨w.heap.size,2,none⟩ (.slice E d.length k) (w.heap.size + 1) hne).trans hs2
 have hfin := qbf _ (w.heap.size + 1) (.int .i64 i) (.int .i64 t) (.slice E d.length k) _ _ _ _ t1
 have t2 : Below w.heap.size w (w3.setCell ⟨w.heap.size,2,none⟩ (.slice E d.length k)) := hbw.setCell (Nat.le_refl _) _
 have hbf := qaH t2 (w.heap.size + 1) (by omega) (.int .i64 i) (.int .i64 t) (.slice E d.length k)
 have hok : qh ((((w3.setCell ⟨w.heap.size,2,none⟩ (.slice E d.length k)).setCell ⟨w.heap.size + 1,0,none⟩ (.int .i64 i)).setCell ⟨w.heap.size + 1,1,none⟩ (.int .i64 t)).setCell ⟨w.heap.size + 1,2,none⟩ (.slice E d.length k)) (fun q => w.heap.size + 2 <= q) ⟨⟨i,t,d⟩,E,k⟩ := by
  have hz : ∀ q o,E = some ⟨q,o,none⟩ -> w.heap.size + 2 <= q := fun q o e => (hown q (hE q o e)).1
  refine ⟨Nat.le_refl _,?_,fun _ q o e => hz q o e⟩
  show Lies _ E d.length k d
  refine hl.keep (by simp) fun h0 q o e hq => ?_
  have := hz q o e
  exact (Below.heap_setCell _ _ _ _ (by show q ≠ w.heap.size + 1; omega)).trans ((Below.heap_setCell _ _ _ _ (by show q ≠ w.heap.size + 1; omega)).trans ((Below.heap_setCell _ _ _ _ (by show q ≠ w.heap.size + 1; omega)).trans (Below.heap_setCell _ _ _ _ (by show q ≠ w.heap.size; omega))))
 have HOK := Lib.hid hok
 have HZ := Lib.hid (show ∀ q,blk E q -> w.heap.size + 2 <= q from fun q ⟨o,e⟩ => (hown q (hE q o e)).1)
 clear hok hl hE hcap hown ho hb3 hb3' hs1 hs2 hr1 hr2 hA2 hC t1 t2 hbw
 go_wp2
 refine bodyPost_ret (qat (n := w.heap.size + 1) rfl rfl hfin Try.underlying31 rfl (by kernel_rfl)) rfl ?_
 exact ⟨E,k,rfl,HOK.out,HZ.out,hbf⟩
end Go.Proofs.Ytmiijlecfiddmaa
