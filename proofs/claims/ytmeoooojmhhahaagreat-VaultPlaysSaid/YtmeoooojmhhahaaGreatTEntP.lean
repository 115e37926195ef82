/- Entries in memory: a slice of them; Few of the document, by its contract. -/
import Derived.Test.YtmeoooojmhhahaaGreatTEntRef
import Derived.SizedLaws
import Derived.Lib.SmallJoins
import Derived.Laws.OwnMore
set_option linter.unusedVariables false
set_option linter.unusedSimpArgs false
set_option maxRecDepth 100000
set_option maxHeartbeats 3200000
namespace Go.Proofs.YtmeoooojmhhahaaGreat
open Go.RowKit
def Ents (w : World) (Z : Nat -> Prop) (A : Option Addr) (len cap : Nat) (ls : List Ent) : Prop :=
 ls.length = len /\ len <= cap /\ (A = none -> cap = 0) /\ (0 < len -> ∃ g off,A = some ⟨g,off,none⟩ /\ g < w.heap.size /\ Z g ∧
  ∀ j (hj : j < ls.length),∃ E c,w.cell? ⟨g,off + j * 3,none⟩ = some (.int .i64 ls[j].i) /\ w.cell? ⟨g,off + j * 3 + 1,none⟩ = some (.int .i64 ls[j].t) /\ w.cell? ⟨g,off + j * 3 + 2,none⟩ = some (.slice E ls[j].d.length c) /\ c <= maxLen /\ Lies w E ls[j].d.length c ls[j].d /\ (0 < ls[j].d.length -> ∀ q o,E = some ⟨q,o,none⟩ -> Z q))
section
variable {w w' : World} {Z Z' : Nat → Prop} {A : Option Addr} {len cap : Nat} {ls : List Ent}
theorem Ents.keep (h : Ents w Z A len cap ls) (hs : w.heap.size <= w'.heap.size) (hk : ∀ k,k < w.heap.size -> Z k -> w'.heap[k]? = w.heap[k]?) : Ents w' Z A len cap ls := by
 refine ⟨h.1,h.2.1,h.2.2.1,fun h0 => ?_⟩
 obtain ⟨g,off,e,hg,hz,hc⟩ := h.2.2.2 h0
 refine ⟨g,off,e,Nat.lt_of_lt_of_le hg hs,hz,fun j hj => ?_⟩
 obtain ⟨E,c,c0,c1,c2,hm,hl,hzE⟩ := hc j hj
 have hx : ∀ o,w'.cell? ⟨g,o,none⟩ = w.cell? ⟨g,o,none⟩ := fun o => World.cell?_of_block (hk g hg hz)
 exact ⟨E,c,(hx _).trans c0,(hx _).trans c1,(hx _).trans c2,hm,hl.keep hs fun h1 q o eq hq => hk q hq (hzE h1 q o eq),hzE⟩
theorem Ents.below (h : Ents w Z A len cap ls) {B : Nat} (hb : Below B w w') (hB : w.heap.size <= B) : Ents w' Z A len cap ls :=
 h.keep hb.size fun k hk _ => hb.block k (Nat.lt_of_lt_of_le hk hB)
theorem Ents.mono (h : Ents w Z A len cap ls) (hz : ∀ k,Z k -> Z' k) : Ents w Z' A len cap ls := by
 refine ⟨h.1,h.2.1,h.2.2.1,fun h0 => ?_⟩
 obtain ⟨g,off,e,hg,hzg,hc⟩ := h.2.2.2 h0
 refine ⟨g,off,e,hg,hz _ hzg,fun j hj => ?_⟩
 obtain ⟨E,c,c0,c1,c2,hm,hl,hzE⟩ := hc j hj
 exact ⟨E,c,c0,c1,c2,hm,hl,fun h1 q o eq => hz _ (hzE h1 q o eq)⟩
theorem Ents.at_ (h : Ents w Z A len cap ls) (j : Nat) (hj : j < len) : ∃ g off E c,A = some ⟨g,off,none⟩ /\ g < w.heap.size /\ w.cell? ⟨g,off + j * 3,none⟩ = some (.int .i64 (ls[j]'(by rw [h.1]; exact hj)).i) /\ w.cell? ⟨g,off + j * 3 + 1,none⟩ = some (.int .i64 (ls[j]'(by rw [h.1]; exact hj)).t) ∧
 w.cell? ⟨g,off + j * 3 + 2,none⟩ = some (.slice E (ls[j]'(by rw [h.1]; exact hj)).d.length c) /\ Lies w E (ls[j]'(by rw [h.1]; exact hj)).d.length c (ls[j]'(by rw [h.1]; exact hj)).d := by
 obtain ⟨g,off,e,hg,_,hc⟩ := h.2.2.2 (by omega)
 obtain ⟨E,c,c0,c1,c2,_,hl,_⟩ := hc j (by rw [h.1]; exact hj)
 exact ⟨g,off,E,c,e,hg,c0,c1,c2,hl⟩
end
def weigh (ls : List Ent) : Nat := (ls.map fun e => e.d.length).sum
theorem qiL (ls : List Ent) (k : Nat) (hk : k < ls.length) : weigh (ls.take (k + 1)) = weigh (ls.take k) + ls[k].d.length := by
 unfold weigh
 rw [List.take_succ_eq_append_getElem hk,List.map_append,List.sum_append]
 simp
theorem qkQ (ls : List Ent) (k : Nat) : weigh (ls.take k) <= weigh ls := by
 unfold weigh
 rw [List.map_take]
 generalize ls.map (fun e => e.d.length) = q
 have := List.take_append_drop k q
 calc (q.take k).sum <= (q.take k).sum + (q.drop k).sum := Nat.le_add_right _ _
  _ = (q.take k ++ q.drop k).sum := by rw [List.sum_append]
  _ = q.sum := by rw [this]
def fewE (ls : List Ent) (many : Nat) : Bool := decide (ls.length <= many) && decide (weigh ls <= 40000)
theorem qkR (Z : Nat -> Prop) (A : Option Addr) (len cap : Nat) (ls : List Ent) (many : Nat) (w : World) (h : Ents w Z A len cap ls) (hm : len <= maxLen) (hmany : many <= 1000) (hd : ∀ e ∈ ls,e.d.length <= 140737488355328) :
 Calls Tryz.prog 21 #[.slice A len cap, .int .i64 (many : Int)] w fun e w' => e = .returned (.bool (fewE ls many)) /\ w = w' := by
 unfold maxLen at hm
 have hll := h.1
 go_enter Tryz.func21,Tryz.ntmps21
 go_wp2
 go_loop [5,6,9] (fun z r i => ∃ k : Nat,k <= len /\ k <= many /\ i = .int .i64 (k : Int) /\ z = .int .i64 ((weigh (ls.take k) : Nat) : Int) /\ weigh (ls.take k) <= 40000) (fun _ _ i => len - (intOf i).toNat)
 case atStart => exact ⟨0,by omega,by omega,rfl,by simp [weigh],by simp [weigh]⟩
 case round =>
  obtain ⟨k,hk,hkm,rfl,rfl,hz⟩ := hrel
  by_cases hlt : k < len
  · have hlt' : (k : Int) < (len : Int) := by omega
    obtain ⟨g,off,E,c,rfl,hg,_,_,hcell,_⟩ := h.at_ k hlt
    have hw := qiL ls k (by omega)
    have hwl := qkQ ls (k + 1)
    have hdk := hd _ (List.getElem_mem (show k < ls.length by omega))
    generalize (ls[k]'(by omega)).d.length = n at *
    generalize weigh (ls.take k) = z at *
    obtain ⟨z2,hz2⟩ : ∃ z2,weigh (ls.take (k + 1)) = z2 := ⟨_,rfl⟩
    rw [hz2] at hw hwl
    have e2 : (z : Int) + (n : Int) = (z2 : Int) := by omega
    have HZ := Lib.hid hz2
    · have e3 : IntKind.i64.wrap (z2 : Int) = (z2 : Int) := IntWalk.i64_in _ (by omega)
      by_cases hkm2 : many <= k
      · have HE := Lib.hid (show fewE ls many = false by unfold fewE; rw [decide_eq_false (by omega),Bool.false_and])
        have q1 : (many : Int) <= (k : Int) := by omega
        clear hz2 hw hwl hz hd hdk hkm2 hkm hk hm
        go_wp2
        go_ret
        exact ⟨by have e : fewE ls many = false := HE; rw [e]; rfl,rfl⟩
      · have q1 : ((many : Int) <= (k : Int)) = False := eq_false (by omega)
        by_cases h4 : 40000 < z2
        · have HE := Lib.hid (show fewE ls many = false by unfold fewE; rw [decide_eq_false (show ¬ weigh ls <= 40000 by omega),Bool.and_false])
          have q2 : (40000 : Int) < (z2 : Int) := by omega
          clear hz2 hw hwl hz hd hdk hkm2 hkm hk hm h4
          go_wp2
          go_ret
          exact ⟨by have e : fewE ls many = false := HE; rw [e]; rfl,rfl⟩
        · have q2 : ((40000 : Int) < (z2 : Int)) = False := eq_false (by omega)
          have e5 : IntKind.i64.wrap ((k : Int) + 1) = ((k + 1 : Nat) : Int) := by rw [IntWalk.i64_in _ (by omega)]; omega
          have hnn : Hid (k + 1 <= many /\ k < len /\ z2 <= 40000) := ⟨by omega,by omega,by omega⟩
          clear hz2 hw hwl hz hd hdk hkm2 hkm hk hm h4
          go_wp2
          go_round
          case rel => exact ⟨k + 1,by have := hnn.out; omega,hnn.out.1,by go_num,by have e : weigh (ls.take (k + 1)) = z2 := HZ; rw [e],by have e : weigh (ls.take (k + 1)) = z2 := HZ; rw [e]; exact hnn.out.2.2⟩
          case measure => have := hnn.out; simp [intOf]; omega
  · obtain rfl : k = len := by omega
    have HE := Lib.hid (show fewE ls many = true by
     unfold fewE
     rw [List.take_of_length_le (by omega)] at hz
     rw [decide_eq_true (by omega),decide_eq_true hz]
     rfl)
    clear h hz hd hm hk hkm
    go_wp2
    go_ret
    exact ⟨by have e : fewE ls many = true := HE; rw [e]; rfl,rfl⟩
end Go.Proofs.YtmeoooojmhhahaaGreat
namespace Go.Proofs.YtmeoooojmhhahaaGreat
open Go.RowKit
theorem qeK (Z : Nat -> Prop) (A : Option Addr) (len cap : Nat) (ls : List Ent) (i t : Int) (w : World) (h : Ents w Z A len cap ls) (hm : len <= maxLen) :
 Calls Tryz.prog 24 #[.int .i64 i, .int .i64 t, .slice A len cap] w fun e w' => e = .returned (.bool (runB i t ls)) /\ Below w.heap.size w w' := by
 unfold maxLen at hm
 have hll := h.1
 go_enter Tryz.func24,Tryz.ntmps24
 go_wp2
 go_loopg [1,7,10] len (fun g tt r ii wr => ∃ k : Nat,k + g = len /\ ii = .int .i64 (k : Int) /\ tt = .int .i64 (qbg t ls k) /\ (∀ j,j < k -> qbE i t ls j = true) /\ Below w.heap.size w wr)
 case atStart => exact ⟨0,by omega,rfl,rfl,fun j hj => absurd hj (by omega),blq⟩
 case round =>
  obtain ⟨k,hk,rfl,rfl,hall,hb⟩ := hrel
  by_cases hlt : k < len
  · have hlt' : (k : Int) < (len : Int) := by omega
    have hbelow := h.below hb nlq
    obtain ⟨g,off,E,c,rfl,hg,x0,x1,x2,hl⟩ := hbelow.at_ k hlt
    have hst := qct i t ls k (by omega)
    have hnx := qdJ i t ls k (by omega)
    have hprev : 0 < k -> wr.cell? ⟨g,off + (k - 1) * 3,none⟩ = some (.int .i64 (qa5 i ls k)) /\ 1 <= qa5 i ls k /\ qa5 i ls k <= 1099511627776 := fun h0 => by
     obtain ⟨g2,off2,E2,c2,e2,_,p0,_,_,_⟩ := hbelow.at_ (k - 1) (by omega)
     injection e2 with e2
     injection e2 with e3 e4
     subst e3 e4
     have hp : qa5 i ls k = (ls[k - 1]'(by omega)).i := by
      have := (qdJ i t ls (k - 1) (by omega)).1
      rwa [Nat.sub_add_cancel h0] at this
     have hs := hall (k - 1) (by omega)
     rw [qct i t ls (k - 1) (by omega)] at hs
     simp only [Bool.and_eq_true] at hs
     have hr := (qaB _ _ _).1 hs.1
     rw [hp]
     exact ⟨p0,hr.1.1,hr.1.2⟩
    generalize hpT : qbg t ls k = T at *
    generalize hpI : qa5 i ls k = I at *
    have hI0 : k = 0 -> I = i := fun e => by rw [<- hpI,e]; rfl
    have HNX := Lib.hid hnx.2
    generalize (ls[k]'(by omega)) = a at *
    obtain ⟨ai,at_,ad⟩ := a
    dsimp only at *
    have hR := fun W => qcL ai at_ E ad.length c W
    have hri := qaB ai at_ ad.length
    generalize ad.length = n at *
    have HALL := Lib.hid hall
    have HB := Lib.hid hb
    have HK := Lib.hid hk
    cases hb2 : rightB ai at_ n with
    | false =>
      rw [hb2] at hR hst
      rw [Bool.false_and] at hst
      have HF := Lib.hid (qbS (i := i) (t := t) (l := ls) k (by omega) hst)
      clear hst hnx hprev hpT hpI hI0 hri hall hb hk hbelow h hl
      go_wp2_with fail
      refine (hR _).mono ?_
      rintro e w1 ⟨rfl,hb1⟩
      have hbw : Below w.heap.size w w1 := Below.trans (HB : Below w.heap.size w wr) (Below.mono hb1 (HB : Below w.heap.size w wr).size)
      go_wp2
      go_ret
      exact ⟨by have e : runB i t ls = false := HF; rw [e]; rfl,hbw⟩
    | true =>
      rw [hb2,Bool.true_and] at hst
      rw [hb2] at hR
      have hrr := hri.1 hb2
      have hIr : 0 < k -> 1 <= I /\ I <= 1099511627776 := fun h0 => (hprev h0).2
      have hpc : 0 < k -> wr.cell? ⟨g,off + (k - 1) * 3,none⟩ = some (.int .i64 I) := fun h0 => (hprev h0).1
      clear hprev hpT hpI hri hall hb hk hbelow h hl hnx hb2
      go_wp2_with fail
      refine (hR _).mono ?_
      rintro e w1 ⟨rfl,hb1⟩
      have hbw : Below w.heap.size w w1 := Below.trans (HB : Below w.heap.size w wr) (Below.mono hb1 (HB : Below w.heap.size w wr).size)
      have x0' := (hb1.cell (p := ⟨g,off + k * 3,none⟩) hg).trans x0
      have x1' := (hb1.cell (p := ⟨g,off + k * 3 + 1,none⟩) hg).trans x1
      have hpc' : 0 < k -> w1.cell? ⟨g,off + (k - 1) * 3,none⟩ = some (.int .i64 I) := fun h0 => (hb1.cell (p := ⟨g,off + (k - 1) * 3,none⟩) hg).trans (hpc h0)
      clear hpc hR x0 x1 x2
      by_cases hT : T <= at_
      · have q1 : (at_ < T) = False := eq_false (by omega)
        rw [decide_eq_true hT,Bool.true_and] at hst
        by_cases hk0 : k = 0
        · obtain rfl := hI0 hk0
          subst hk0
          have x0' : w1.cell? ⟨g,off,none⟩ = some (.int .i64 ai) := by simpa using x0'
          by_cases hI : ai = I + 1
          · have HST := Lib.hid (hst.trans (decide_eq_true hI))
            have q2 : (I < 0) = False := eq_false (by omega)
            have q3 : ((1099511627776 : Int) <= I) = False := eq_false (by omega)
            have q2d : decide (I < 0) = false := decide_eq_false (by omega)
            have q3d : decide ((1099511627776 : Int) <= I) = false := decide_eq_false (by omega)
            have q4 : IntKind.i64.wrap (I + 1) = ai := by rw [hI]; exact IntWalk.i64_in _ (by omega)
            clear hst hI hrr hIr hpc' hI0
            go_wp2
            go_big_quiet (fail)
            go_wp2
            go_roundg (gk - 1)
            case measure => have : 0 + gk = len := HK; omega
            case rel => exact ⟨0 + 1,by have : 0 + gk = len := HK; omega,by go_num,by have e : qbg t ls (0 + 1) = at_ := HNX; rw [e],fun j hj => by
             rcases Nat.lt_or_ge j 0 with h1 | h1
             · exact (HALL : ∀ j,j < 0 -> qbE I t ls j = true) j h1
             · have e : j = 0 := by omega
               rw [e]; exact HST,below_drewN hbw _⟩
          · have HF := Lib.hid (qbS (i := I) (t := t) (l := ls) 0 (by omega) (hst.trans (decide_eq_false hI)))
            have q5 : (ai == I + 1) = false := beq_eq_false_iff_ne.2 hI
            have q7 : (ai != I + 1) = true := by simp [hI]
            have q6 : (ai = I + 1) = False := eq_false hI
            clear hst hI hrr hIr hpc' hI0
            by_cases hn : I < 0
            · have q2d : decide (I < 0) = true := decide_eq_true hn
              go_wp2
              go_big_quiet (fail)
              go_wp2
              go_ret
              exact ⟨by have e : runB I t ls = false := HF; rw [e]; rfl,below_drewN hbw _⟩
            · have q2 : (I < 0) = False := eq_false hn
              have q2d : decide (I < 0) = false := decide_eq_false hn
              clear hn
              by_cases hm2 : (1099511627776 : Int) <= I
              · have q3d : decide ((1099511627776 : Int) <= I) = true := decide_eq_true hm2
                go_wp2
                go_big_quiet (fail)
                go_wp2
                go_ret
                exact ⟨by have e : runB I t ls = false := HF; rw [e]; rfl,below_drewN hbw _⟩
              · obtain ⟨J,hJ⟩ : ∃ J,I + 1 = J := ⟨_,rfl⟩
                have q4 : IntKind.i64.wrap (I + 1) = J := by rw [<- hJ]; exact IntWalk.i64_in _ (by have := of_eq_false q2; omega)
                rw [hJ] at q5 q6 q7
                have q3 : ((1099511627776 : Int) <= I) = False := eq_false hm2
                have q3d : decide ((1099511627776 : Int) <= I) = false := decide_eq_false hm2
                clear hm2 hJ
                go_wp2
                go_big_quiet (fail)
                go_wp2
                go_ret
                exact ⟨by have e : runB I t ls = false := HF; rw [e]; rfl,below_drewN hbw _⟩
        · have k1 : (0 : Int) < (k : Int) := by omega
          have k6 : 0 < k := by omega
          have k7 : decide (0 < k) = true := decide_eq_true k6
          have k2 : ((k : Int) == 0) = false := beq_eq_false_iff_ne.2 (by omega)
          have k3 : IntKind.i64.wrap ((k : Int) - 1) = ((k - 1 : Nat) : Int) := by rw [IntWalk.i64_in _ (by omega)]; omega
          have hp := hpc' (by omega)
          have hI1 := hIr (by omega)
          obtain ⟨J,hJ⟩ : ∃ J,I + 1 = J := ⟨_,rfl⟩
          have q4 : IntKind.i64.wrap (I + 1) = J := by rw [<- hJ]; exact IntWalk.i64_in _ (by omega)
          rw [hJ] at hst
          have k4 : ((k - 1 : Nat) : Int) < (len : Int) := by omega
          have k5 : ((k : Int) = 0) = False := eq_false (by omega)
          generalize k - 1 = k' at *
          clear hJ
          by_cases hI : ai = J
          · have HST := Lib.hid (hst.trans (decide_eq_true hI))
            subst hI
            clear hst hrr hIr hpc' hI0 hk0
            go_wp2
            go_big_quiet (fail)
            go_wp2
            go_roundg (gk - 1)
            case measure => have : k + gk = len := HK; omega
            case rel => exact ⟨k + 1,by have : k + gk = len := HK; omega,by go_num,by have e : qbg t ls (k + 1) = at_ := HNX; rw [e],fun j hj => by
             rcases Nat.lt_or_ge j k with h1 | h1
             · exact (HALL : ∀ j,j < k -> qbE i t ls j = true) j h1
             · have e : j = k := by omega
               rw [e]; exact HST,below_drewN hbw _⟩
          · have HF := Lib.hid (qbS (i := i) (t := t) (l := ls) k (by omega) (hst.trans (decide_eq_false hI)))
            have q5 : (ai == J) = false := beq_eq_false_iff_ne.2 hI
            have q7 : (ai != J) = true := by simp [hI]
            have q6 : (ai = J) = False := eq_false hI
            clear hst hrr hIr hpc' hI0 hk0 hI
            go_wp2
            go_big_quiet (fail)
            go_wp2
            go_ret
            exact ⟨by have e : runB i t ls = false := HF; rw [e]; rfl,below_drewN hbw _⟩
      · have q1 : at_ < T := by omega
        have HF := Lib.hid (qbS (i := i) (t := t) (l := ls) k (by omega) (by rw [hst,decide_eq_false hT,Bool.false_and]))
        clear hst hT hrr hIr hpc' hI0
        go_wp2
        go_ret
        exact ⟨by have e : runB i t ls = false := HF; rw [e]; rfl,hbw⟩
  · obtain rfl : k = len := by omega
    have hdec : decide ((k : Int) < (k : Int)) = false := decide_eq_false (by omega)
    have HT := Lib.hid (qgW (i := i) (t := t) (l := ls) (fun j hj => hall j (by omega)))
    clear h hall hk hm
    go_wp2
    go_ret
    exact ⟨by have e : runB i t ls = true := HT; rw [e]; rfl,hb⟩
end Go.Proofs.YtmeoooojmhhahaaGreat
namespace Go.Proofs.YtmeoooojmhhahaaGreat
open Go.RowKit
def qcb (a b : List Ent) (k : Nat) : Bool :=
 match a[k]?,b[k]? with
 | some x,some y => oneB x.i x.t x.d y.i y.t y.d
 | _,_ => false
def qbF (a b : List Ent) : Bool := decide (a.length = b.length) && (List.range a.length).all (qcb a b)
theorem qkS {a b : List Ent} (k : Nat) (hk : k < a.length) (h : qcb a b k = false) : qbF a b = false := by
 unfold qbF
 cases hr : (List.range a.length).all (qcb a b) with
 | false => rw [Bool.and_false]
 | true =>
   have := List.all_eq_true.1 hr k (List.mem_range.2 hk)
   rw [h] at this
   cases this
theorem qf3 {a b : List Ent} (hl : a.length = b.length) (h : ∀ k,k < a.length -> qcb a b k = true) : qbF a b = true := by
 unfold qbF
 rw [decide_eq_true hl,Bool.true_and]
 exact List.all_eq_true.2 fun k hk => h k (List.mem_range.1 hk)
theorem qgY (a b : List Ent) (k : Nat) (h1 : k < a.length) (h2 : k < b.length) : qcb a b k = oneB a[k].i a[k].t a[k].d b[k].i b[k].t b[k].d := by
 unfold qcb
 rw [List.getElem?_eq_getElem h1,List.getElem?_eq_getElem h2]
theorem qjM (Z Y : Nat -> Prop) (A : Option Addr) (len cap : Nat) (ls : List Ent) (B : Option Addr) (n capB : Nat) (ts : List Ent) (w : World) (h : Ents w Z A len cap ls) (h' : Ents w Y B n capB ts) (hm : len <= maxLen) :
 Calls Tryz.prog 28 #[.slice A len cap, .slice B n capB] w fun e w' => e = .returned (.bool (qbF ls ts)) /\ Below w.heap.size w w' := by
 unfold maxLen at hm
 have hll := h.1
 have hln := h'.1
 by_cases hlen : len = n
 · subst hlen
   go_enter Tryz.func28,Tryz.ntmps28
   go_wp2
   go_loopg [5,13] len (fun g r i wr => ∃ k : Nat,k + g = len /\ i = .int .i64 (k : Int) /\ (∀ j,j < k -> qcb ls ts j = true) /\ Below w.heap.size w wr)
   case atStart => exact ⟨0,by omega,rfl,fun j hj => absurd hj (by omega),blq⟩
   case round =>
    obtain ⟨k,hk,rfl,hall,hb⟩ := hrel
    by_cases hlt : k < len
    · have hlt' : (k : Int) < (len : Int) := by omega
      obtain ⟨g,off,E,c,rfl,hg,x0,x1,x2,hl⟩ := (h.below hb nlq).at_ k hlt
      obtain ⟨g',off',E',c',rfl,hg',y0,y1,y2,hl'⟩ := (h'.below hb nlq).at_ k hlt
      have hone := qgY ls ts k (by omega) (by omega)
      generalize (ls[k]'(by omega)) = a at *
      generalize (ts[k]'(by omega)) = b at *
      obtain ⟨ai,at_,ad⟩ := a
      obtain ⟨bi,bt,bd⟩ := b
      dsimp only at *
      have hO := fun W (hW : Below wr.heap.size wr W) => qkP ai at_ E ad.length c ad bi bt E' bd.length c' bd W (hl.below hW nlq) (hl'.below hW nlq)
      rw [<- hone] at hO
      have HALL := Lib.hid hall
      have HB := Lib.hid hb
      have HK := Lib.hid hk
      cases hv : qcb ls ts k with
      | true =>
        rw [hv] at hO
        have HT := Lib.hid hv
        clear hone hall hv hl hl' hb hk
        generalize ad.length = n1 at *
        generalize bd.length = n2 at *
        go_wp2
        go_region_with (go_at_call 83
                        refine (hO _ (by first | exact blq | exact blq.drew)).mono ?_
                        rintro e w1 ⟨rfl,hb1⟩
                        have hbw : Below w.heap.size w w1 := Below.trans (HB : Below w.heap.size w wr) (Below.mono (by first | exact hb1 | exact Below.trans (Below.refl wr.heap.size wr).drew hb1) (HB : Below w.heap.size w wr).size))
        all_goals
         go_wp2
         go_roundg (gk - 1)
         case measure => have : k + gk = len := HK; omega
         case rel => exact ⟨k + 1,by have : k + gk = len := HK; omega,by go_num,fun j hj => by
          rcases Nat.lt_or_ge j k with h1 | h1
          · exact (HALL : ∀ j,j < k -> qcb ls ts j = true) j h1
          · have e : j = k := by omega
            rw [e]; exact HT,by first | exact hbw | exact hbw.drew⟩
      | false =>
        rw [hv] at hO
        have HF := Lib.hid (qkS (a := ls) (b := ts) k (by omega) hv)
        clear hone hall hv hl hl' hb hk
        generalize ad.length = n1 at *
        generalize bd.length = n2 at *
        go_wp2
        go_region_with (go_at_call 83
                        refine (hO _ (by first | exact blq | exact blq.drew)).mono ?_
                        rintro e w1 ⟨rfl,hb1⟩
                        have hbw : Below w.heap.size w w1 := Below.trans (HB : Below w.heap.size w wr) (Below.mono (by first | exact hb1 | exact Below.trans (Below.refl wr.heap.size wr).drew hb1) (HB : Below w.heap.size w wr).size))
        all_goals
         go_wp2
         go_ret
         exact ⟨by have e : qbF ls ts = false := HF; rw [e]; rfl,by first | exact hbw | exact hbw.drew⟩
    · obtain rfl : k = len := by omega
      have hdec : decide ((k : Int) < (k : Int)) = false := decide_eq_false (by omega)
      have HT := Lib.hid (qf3 (a := ls) (b := ts) (by omega) (fun j hj => hall j (by omega)))
      clear h h' hall hk hm
      go_wp2
      go_ret
      exact ⟨by have e : qbF ls ts = true := HT; rw [e]; rfl,hb⟩
 · have hF := Lib.hid (show qbF ls ts = false by unfold qbF; rw [decide_eq_false (by omega),Bool.false_and])
   have hne : ((len : Int) != (n : Int)) = true := by simp; omega
   have hne2 : ((len : Int) = (n : Int)) = False := eq_false (by omega)
   clear h h' hlen hll hln hm
   go_enter Tryz.func28,Tryz.ntmps28
   go_wp2
   go_ret
   exact ⟨by have e : qbF ls ts = false := hF; rw [e]; rfl,blq⟩
end Go.Proofs.YtmeoooojmhhahaaGreat
namespace Go.Proofs.YtmeoooojmhhahaaGreat
open Go.ChangeShapes Go.WideShapes Go.ChangeAt Go.RowKit Go.Deep
section
variable {H : Type} {enc : TypeId × Value → H} {P : Program} {W : World} {sp : Nat → Bool} {hd : Bool}
theorem qgF {t e : TypeId} {C base : Nat} {v : Value} {d : DataW H} {p : List MemPlace} (ht : P.underlying t = some (.slice e)) (hC : P.cellsOf e = C) (h0 : 0 < C)
 (hok : Value.okWide P W .any base t v) (h : DataW.Trod enc P W 0 sp hd t v d p) (hlt : ∀ x ∈ p,x.block < W.heap.size) :
 ∃ (A : Option Addr) (len cap n : Nat) (Cs : Nat -> List Value) (D : Nat -> DataW H),v = .slice A len cap /\ len <= cap /\ cap <= maxLen /\ (A = none -> cap = 0) /\ (d = .nil /\ len = 0 \/ ∃ rest,d = .slice ((List.range len).map D) rest) ∧
  (0 < len -> ∃ b off,A = some ⟨b,off,none⟩ /\ b < W.heap.size /\ ∀ j,j < len -> ∀ i u,(Cs j)[i]? = some u -> W.cell? ⟨b,off + j * C + i,none⟩ = some u) ∧
  ∀ j,j < len -> (Cs j).length = C /\ ∃ pl,DataW.trod enc P W 0 sp hd n e (Cs j) = some (D j,pl) /\ ∀ x ∈ pl,x.block < W.heap.size := by
 obtain ⟨A,len,cap,rfl⟩ := okWide_slice ht hok
 obtain ⟨fuel,hf⟩ := h
 rcases open_slice ht hf with ⟨hcs,hx⟩ | ⟨a,len',cap',m,n,D,Pl,hcs,hb,hl,hm,hmm,hx,hi⟩
 · simp [Value.cells] at hcs
   obtain ⟨rfl,rfl,rfl⟩ := hcs
   simp only [Prod.mk.injEq] at hx
   exact ⟨none,0,0,0,fun _ => [],fun _ => .nil,rfl,nlq,Nat.zero_le _,fun _ => rfl, .inl ⟨hx.1,rfl⟩,fun h => absurd h (by omega),fun j hj => absurd hj (by omega)⟩
 · simp [Value.cells] at hcs
   obtain ⟨rfl,rfl,rfl⟩ := hcs
   simp only [Prod.mk.injEq] at hx
   have hlm : len <= m := by rw [hmm]; split <;> omega
   obtain ⟨Cs,hCs⟩ := Classical.axiomOfChoice (r := fun i cs' => i < m -> W.cells? 0 (a.add (i * P.cellsOf e)) (P.cellsOf e) = some cs' /\ DataW.trod enc P W 0 sp hd n e cs' = some (D i,Pl i)) (fun i => by
    by_cases him : i < m
    · obtain ⟨cs',h1,h2⟩ := hi i him
      exact ⟨cs',fun _ => ⟨h1,h2⟩⟩
    · exact ⟨[],fun h => absurd h him⟩)
   rw [hC] at hCs
   refine ⟨some a,len,cap,n,Cs,D,rfl,hl,hm,(fun h => by cases h), .inr ⟨_,hx.1⟩,fun hpos => ?_,fun j hj => ?_⟩
   · have hcell : ∀ j,j < len -> ∀ i u,(Cs j)[i]? = some u -> W.cell? (a.add (j * C + i)) = some u := fun j hj i u hu => by
      obtain ⟨hc,_⟩ := hCs j (by omega)
      obtain ⟨_,hcl,hat⟩ := World.cells?_some hc
      have hic : i < C := by
       rcases Nat.lt_or_ge i (Cs j).length with h1 | h1
       · omega
       · rw [List.getElem?_eq_none h1] at hu; cases hu
      have := hat i hic
      rw [qin] at this
      rw [this,hu]
     obtain ⟨b,off,spot⟩ := a
     obtain ⟨hc0,_⟩ := hCs 0 (by omega)
     obtain ⟨_,hcl0,_⟩ := World.cells?_some hc0
     have g0 : (Cs 0)[0]? = some ((Cs 0)[0]'(by omega)) := List.getElem?_eq_getElem (by omega)
     have hspot : spot = none := by simpa [Addr.add] using World.cell?_spot (hcell 0 hpos 0 _ g0)
     subst hspot
     refine ⟨b,off,rfl,?_,fun j hj i u hu => ?_⟩
     · have hin : MemPlace.cell b off ∈ p := by
        rw [hx.2]
        refine List.mem_append_left _ (MemPlace.mem_row.2 ⟨0,?_,by simp⟩)
        rw [hC]; exact Nat.mul_pos (by omega) h0
       exact hlt _ hin
     · have := hcell j hj i u hu
       rw [qeD,<- Nat.add_assoc] at this
       exact this
   · obtain ⟨hc,hdt⟩ := hCs j (by omega)
     obtain ⟨_,hcl,_⟩ := World.cells?_some hc
     exact ⟨hcl,Pl j,hdt,fun x hx' => hlt x (by rw [hx.2]; exact List.mem_append_right _ (List.mem_flatMap.2 ⟨j,by simp; omega,hx'⟩))⟩
theorem qdd {e : TypeId} {d : DataW H} {n : Nat} (hn : n ∈ d.weights P e) : ∀ {l : List (DataW H)},d ∈ l -> n ∈ DataW.weightsAll P e l
 | x :: l,h => by
   simp only [DataW.weightsAll,List.mem_append]
   rcases List.mem_cons.1 h with rfl | h
   · exact .inl hn
   · exact .inr (qdd hn h)
theorem qdK {t e : TypeId} {elems spare : List (DataW H)} {d : DataW H} {n : Nat} (ht : P.underlying t = some (.slice e)) (hd : d ∈ elems) (hn : n ∈ d.weights P e) : n ∈ (DataW.slice elems spare).weights P t := by
 simp only [DataW.weights,ht,List.mem_cons,List.mem_append]
 exact .inr (.inl (qdd hn hd))
theorem qhW {A : Option Addr} {len cap m : Nat} {y : DataW H × List MemPlace} (hy : DataW.trod enc Tryz.prog W 0 sp hd m 33 [.slice A len cap] = some y) (hw : ∀ n ∈ y.1.weights Tryz.prog 33,n <= reachBytes) : len <= 140737488355328 := by
 rcases qgz (d := y.1) (p := y.2) ⟨m,by simpa [Value.cells] using hy⟩ with h | ⟨el,sr,e,hel⟩
 · omega
 · have := hw ((el.length + sr.length) * Tryz.prog.bytesOf 5) (by rw [e]; simp [DataW.weights,Tryz.underlying33])
   rw [show Tryz.prog.bytesOf 5 = 1 by kernel_rfl] at this
   simp only [reachBytes] at this
   omega
def qmh (W : World) (C : List Value) (e : Ent) : Prop :=
 ∃ A c,C = [.int .i64 e.i, .int .i64 e.t, .slice A e.d.length c] /\ c <= maxLen /\ Lies W A e.d.length c e.d /\ (0 < e.d.length -> ∀ a,A = some a -> a.block < W.heap.size)
end
end Go.Proofs.YtmeoooojmhhahaaGreat
namespace Go.Proofs.YtmeoooojmhhahaaGreat
open Go.RowKit
structure Lay where
 e : Ent
 A : Option Addr
 c : Nat
def cells3 (x : Lay) : List Value := [.int .i64 x.e.i, .int .i64 x.e.t, .slice x.A x.e.d.length x.c]
def rowOf (xs : List Lay) : List Value := xs.flatMap cells3
theorem qcc (x : Lay) (xs : List Lay) : rowOf (x :: xs) = cells3 x ++ rowOf xs := rfl
theorem qau (xs : List Lay) : (rowOf xs).length = xs.length * 3 := by
 induction xs with
 | nil => rfl
 | cons x xs ih =>
   rw [qcc,List.length_append,ih,List.length_cons]
   simp [cells3]
   omega
theorem qdp (xs : List Lay) : ∀ (j r : Nat) (hj : j < xs.length),r < 3 -> (rowOf xs)[j * 3 + r]? = (cells3 xs[j])[r]? := by
 induction xs with
 | nil => intro j r hj; simp at hj
 | cons x xs ih =>
   intro j r hj hr
   rw [qcc]
   cases j with
   | zero =>
     rw [List.getElem?_append_left (by simp [cells3]; omega)]
     simp
   | succ j =>
     rw [List.getElem?_append_right (by simp [cells3]; omega)]
     rw [show (j + 1) * 3 + r - (cells3 x).length = j * 3 + r by simp [cells3]; omega]
     rw [ih j r (by simpa using hj) hr]
     simp
theorem qjN (xs : List Lay) : ∀ u ∈ rowOf xs,u.oneCell' = true := by
 intro u hu
 obtain ⟨x,_,hx⟩ := List.mem_flatMap.1 hu
 simp only [cells3,List.mem_cons,List.not_mem_nil,or_false] at hx
 rcases hx with rfl | rfl | rfl <;> rfl
def qZ (w : World) (Z : Nat -> Prop) (x : Lay) : Prop :=
 x.c <= maxLen /\ Lies w x.A x.e.d.length x.c x.e.d /\ (0 < x.e.d.length -> ∀ q o,x.A = some ⟨q,o,none⟩ -> Z q)
theorem qZ.mono {w : World} {Z Z' : Nat -> Prop} {x : Lay} (h : qZ w Z x) (hz : ∀ k,Z k -> Z' k) : qZ w Z' x := ⟨h.1,h.2.1,fun h0 q o e => hz _ (h.2.2 h0 q o e)⟩
theorem qZ.keep {w w' : World} {Z : Nat -> Prop} {x : Lay} (h : qZ w Z x) (hs : w.heap.size <= w'.heap.size) (hk : ∀ k,k < w.heap.size -> Z k -> w'.heap[k]? = w.heap[k]?) : qZ w' Z x :=
 ⟨h.1,h.2.1.keep hs fun h0 g off e hg => hk g hg (h.2.2 h0 g off e),h.2.2⟩
theorem Ents.lays {w : World} {Z : Nat -> Prop} {A : Option Addr} {len cap : Nat} {ls : List Ent} (h : Ents w Z A len cap ls) :
 ∃ xs : List Lay,xs.map (·.e) = ls /\ (∀ x ∈ xs,qZ w Z x) /\ (∀ a,A = some a -> ∀ j u,(rowOf xs)[j]? = some u -> w.cell? (a.add j) = some u) := by
 by_cases h0 : 0 < len
 · obtain ⟨g,off,rfl,hg,hz,hc⟩ := h.2.2.2 h0
   obtain ⟨X,hX⟩ := Classical.axiomOfChoice (r := fun j (x : Option Addr × Nat) => ∀ (hj : j < ls.length),w.cell? ⟨g,off + j * 3,none⟩ = some (.int .i64 ls[j].i) /\ w.cell? ⟨g,off + j * 3 + 1,none⟩ = some (.int .i64 ls[j].t) /\ w.cell? ⟨g,off + j * 3 + 2,none⟩ = some (.slice x.1 ls[j].d.length x.2) /\ qZ w Z ⟨ls[j],x.1,x.2⟩) (fun j => by
    by_cases hj : j < ls.length
    · obtain ⟨E,c,c0,c1,c2,hm,hl,hzE⟩ := hc j hj
      exact ⟨(E,c),fun _ => ⟨c0,c1,c2,hm,hl,hzE⟩⟩
    · exact ⟨(none,0),fun h => absurd h hj⟩)
   have hxl : ((List.range ls.length).map fun j => (⟨ls.getD j ⟨0,0,[]⟩,(X j).1,(X j).2⟩ : Lay)).length = ls.length := by simp
   refine ⟨(List.range ls.length).map fun j => ⟨ls.getD j ⟨0,0,[]⟩,(X j).1,(X j).2⟩,?_,?_,?_⟩
   · apply List.ext_getElem
     · simp
     · intro j h1 h2
       simp [List.getD_eq_getElem?_getD,List.getElem?_eq_getElem h2]
   · intro x hx
     obtain ⟨j,hj,rfl⟩ := List.mem_map.1 hx
     have hj' : j < ls.length := by simpa using hj
     have := (hX j hj').2.2.2
     simpa [List.getD_eq_getElem?_getD,List.getElem?_eq_getElem hj'] using this
   · intro a ea j u hu
     injection ea with ea
     subst ea
     rw [Addr.add_lit]
     have hjl : j < ls.length * 3 := by
      have := (List.getElem?_eq_some_iff.1 hu).1
      rw [qau,hxl] at this
      exact this
     have hq : j / 3 < ls.length := by omega
     have hat := qdp _ (j / 3) (j % 3) (by rw [hxl]; exact hq) (Nat.mod_lt _ (by omega))
     rw [show j / 3 * 3 + j % 3 = j by omega,hu] at hat
     obtain ⟨c0,c1,c2,_⟩ := hX (j / 3) hq
     simp only [List.getElem_map,List.getElem_range,List.getD_eq_getElem?_getD,List.getElem?_eq_getElem hq,Option.getD_some,cells3] at hat
     have h3 : j % 3 = 0 \/ j % 3 = 1 \/ j % 3 = 2 := by omega
     rcases h3 with h3 | h3 | h3
     · rw [h3] at hat
       injection hat with hat
       rw [hat,show off + j = off + j / 3 * 3 by omega]
       exact c0
     · rw [h3] at hat
       injection hat with hat
       rw [hat,show off + j = off + j / 3 * 3 + 1 by omega]
       exact c1
     · rw [h3] at hat
       injection hat with hat
       rw [hat,show off + j = off + j / 3 * 3 + 2 by omega]
       exact c2
 · have hl := h.1
   obtain rfl : ls = [] := List.eq_nil_of_length_eq_zero (by omega)
   exact ⟨[],rfl,fun x hx => by simp at hx,fun a _ j u hu => by simp [rowOf] at hu⟩
theorem Ents.ofRow {w : World} {Z : Nat -> Prop} {base g n cap : Nat} {T : TypeId} {xs : List Lay} (h : w.ownsRow base T 3 (.slice (some ⟨g,0,none⟩) n cap) n (rowOf xs)) (hn : xs.length = n) (hz : Z g) (hok : ∀ x ∈ xs,qZ w Z x) :
 Ents w Z (some ⟨g,0,none⟩) n cap (xs.map (·.e)) := by
 have hg : g < w.heap.size := (World.ownsRow.lt h g rfl).2
 have hcap : n <= cap := by
  rcases h.2 with ⟨h',_⟩ | ⟨g',cap',cur,h',_,_,hnc,_⟩
  · simp at h'
  · simp only [Value.slice.injEq,Option.some.injEq,Addr.mk.injEq,and_true,true_and] at h'
    obtain ⟨rfl,rfl⟩ := h'
    exact hnc
 refine ⟨by simpa using hn,hcap,(fun e => by cases e),fun _ => ⟨g,0,rfl,hg,hz,fun j hj => ?_⟩⟩
 have hj' : j < xs.length := by simpa using hj
 have hcell : ∀ r,r < 3 -> w.cell? ⟨g,j * 3 + r,none⟩ = (cells3 xs[j])[r]? := fun r hr => by
  rw [World.ownsRow.cellAt h (j * 3 + r) (by omega),qdp xs j r hj' hr]
 obtain ⟨hm,hl,hzE⟩ := hok xs[j] (List.getElem_mem hj')
 simp only [List.getElem_map]
 refine ⟨xs[j].A,xs[j].c,?_,?_,?_,hm,hl,hzE⟩
 · rw [Nat.zero_add]; exact hcell 0 (by omega)
 · rw [Nat.zero_add]; exact hcell 1 (by omega)
 · rw [Nat.zero_add]; exact hcell 2 (by omega)
theorem qaa {w w' : World} {base : Nat} {e : TypeId} {size : Nat} {v : Value} {n : Nat} {xs : List Value} (h : w.ownsRow base e size v n xs) (hk : ∀ g,v.ownBlock = some g -> w'.heap[g]? = w.heap[g]?) : w'.ownsRow base e size v n xs := by
 rcases h.2 with ⟨e,h0⟩ | ⟨g,cap,cur,e,hb,hg,r⟩
 · exact ⟨h.1, .inl ⟨e,h0⟩⟩
 · exact ⟨h.1, .inr ⟨g,cap,cur,e,hb,(hk g (by rw [e]; rfl)).trans hg,r⟩⟩
theorem qdq : (Tryz.prog.info? 69).map (fun i => (i.zero,i.size,i.bytes)) = some (some (.agg #[.int .i64 0, .int .i64 0, .slice none 0 0]),3,40) := by kernel_rfl
theorem qe9 (w : World) : (Go.sizeOf 69).run Tryz.prog w = .ok 3 w := by
 obtain ⟨i,hi,_,hs,_⟩ := info_parts qdq
 simp [Go.sizeOf,typeInfo,hi,hs]
theorem qad (w : World) {ops : Array Oper} {rest : List Oper} {o : Oper} {a : Act} {Q : Exit -> Act -> World -> Prop} (hgd : o.guard = none) (sl x : Operand)
 (ho : o.op = .call { callee := .builtin .append,args := #[sl,x],argTypes := #[36,36] })
 (base : Nat) (hbase : base <= w.heap.size) (v : Value) (n : Nat) (row : List Value) (hs : a.eval sl = v) (hown : w.ownsRow base 69 3 v n row) (b : Addr) (len cap : Nat) (xs : List Lay) (hx : a.eval x = .slice (some b) len cap) (hl : xs.length = len)
 (hcell : ∀ j u,(rowOf xs)[j]? = some u -> w.cell? (b.add j) = some u) (hf : n + len <= 1000000)
 (h : ∀ v' w',w'.ownsRow base 69 3 v' (n + len) (row ++ rowOf xs) -> w.grownBy w' v.ownBlock -> (v'.ownBlock = v.ownBlock \/ v'.ownBlock = some w.heap.size) -> wpList Tryz.prog ops Q rest (a.put o.dst v') w') : wpList Tryz.prog ops Q (o :: rest) a w := by
 obtain ⟨i0,hi0,hz0,hz1,hz2⟩ := info_parts qdq
 refine wpList_plain hgd fun K hK => ?_
 obtain ⟨v',w',hr,h2,h3,_,h4⟩ := run_append_own_at (P := Tryz.prog) w base 36 o.type 69 i0 _ 3 40 Tryz.underlying36 hi0 hz0 hz1 hz2 rfl (by omega) v n row hown b len cap (rowOf xs) (by rw [qau,hl]) hcell (qjN xs) (by unfold maxLen; omega) (by omega) hbase
 unfold Oper.wp execOp
 simp only [ho,resolve,invoke,builtin,Sem.run_bind,Sem.run_pure,Result.andThen_ok,List.map_toArray,List.map_cons,List.map_nil,hs,hx,hr]
 exact hK _ _ (h v' w' h2 h3 h4)
def qiM (g off cap : Nat) : Option Addr := if cap = 1 then some ⟨g,off,none⟩ else some ⟨g,off + 3,none⟩
theorem Ents.rest {w : World} {Z : Nat -> Prop} {g off n cap : Nat} {ls : List Ent} (h : Ents w Z (some ⟨g,off,none⟩) n cap ls) (h1 : 1 <= n) : Ents w Z (qiM g off cap) (n - 1) (cap - 1) (ls.drop 1) := by
 have hl := h.1
 have hc := h.2.1
 refine ⟨by simp; omega,by omega,(fun e => by unfold qiM at e; split at e <;> cases e),fun h0 => ?_⟩
 obtain ⟨g',off',e,hg,hz,hcell⟩ := h.2.2.2 (by omega)
 injection e with e
 injection e with e1 e2
 subst e1 e2
 refine ⟨g,off + 3,by unfold qiM; rw [if_neg (by omega)],hg,hz,fun j hj => ?_⟩
 have hj' : 1 + j < ls.length := by simp at hj; omega
 obtain ⟨E,c,c0,c1,c2,r⟩ := hcell (1 + j) hj'
 simp only [List.getElem_drop]
 exact ⟨E,c,by rw [show off + 3 + j * 3 = off + (1 + j) * 3 by omega]; exact c0,by rw [show off + 3 + j * 3 + 1 = off + (1 + j) * 3 + 1 by omega]; exact c1,by rw [show off + 3 + j * 3 + 2 = off + (1 + j) * 3 + 2 by omega]; exact c2,r⟩
theorem qjO (e : Ent) : oneB e.i e.t e.d e.i e.t e.d = true := by simp [oneB]
theorem qiN (ls : List Ent) : qbF ls ls = true :=
 qf3 rfl fun k hk => by rw [qgY _ _ k hk hk]; exact qjO _
end Go.Proofs.YtmeoooojmhhahaaGreat
namespace Go.Proofs.YtmeoooojmhhahaaGreat
open Go.RowKit
def qcj (i t : Int) : Bool := numB i && numB t
theorem qgG (i t : Int) (n : Nat) : rightB i t n = (qcj i t && decide (n <= 12000)) := rfl
theorem qf4 (i t : Int) (w : World) : Calls Tryz.prog 113 #[.int .i64 i, .int .i64 t] w fun e w' => e = .returned (.bool (qcj i t)) /\ w = w' := by
 unfold qcj numB
 by_cases h1 : 1 <= i
 · rw [decide_eq_true h1,Bool.true_and]
   by_cases h2 : i <= 1099511627776
   · rw [decide_eq_true h2,Bool.true_and]
     by_cases h3 : 1 <= t
     · rw [decide_eq_true h3,Bool.true_and]
       go_enter Tryz.func113,Tryz.ntmps113
       go_wp2
       go_ret
       exact ⟨rfl,rfl⟩
     · have e1 : decide (1 <= t) = false := decide_eq_false h3
       have e2 : (1 <= t) = False := eq_false h3
       rw [e1,Bool.false_and]
       clear h3
       go_enter Tryz.func113,Tryz.ntmps113
       go_wp2
       go_ret
       exact ⟨rfl,rfl⟩
   · have e1 : decide (i <= 1099511627776) = false := decide_eq_false h2
     have e2 : (i <= 1099511627776) = False := eq_false h2
     rw [e1,Bool.false_and]
     clear h2
     go_enter Tryz.func113,Tryz.ntmps113
     go_wp2
     go_ret
     exact ⟨rfl,rfl⟩
 · have e1 : decide (1 <= i) = false := decide_eq_false h1
   have e2 : (1 <= i) = False := eq_false h1
   rw [e1,Bool.false_and,Bool.false_and]
   clear h1
   go_enter Tryz.func113,Tryz.ntmps113
   go_wp2
   go_ret
   exact ⟨rfl,rfl⟩
theorem qcM (i t : Int) (A : Option Addr) (n c : Nat) (w : World) : Calls Tryz.prog 93 #[entV i t A n c] w fun e w' => e = .returned (.bool (rightB i t n)) /\ Below w.heap.size w w' := by
 have hi := fun W => qf4 i t W
 have hb : Below w.heap.size w (w.alloc (.cells #[.int .i64 i, .int .i64 t, .slice A n c] 69)) := blq.alloc nlq _
 rw [qgG]
 generalize qcj i t = bi at *
 cases bi with
 | false =>
   go_enter Tryz.func93,Tryz.ntmps93
   go_wp2_with fail
   refine (hi _).mono ?_
   rintro e w1 ⟨rfl,rfl⟩
   go_wp2
   go_ret
   exact ⟨rfl,hb⟩
 | true =>
   go_enter Tryz.func93,Tryz.ntmps93
   go_wp2_with fail
   refine (hi _).mono ?_
   rintro e w1 ⟨rfl,rfl⟩
   go_wp2
   go_ret
   refine ⟨?_,hb⟩
   show Ending.returned (.bool (decide ((n : Int) <= 12000))) = _
   rw [qe6 n 12000 12000 rfl]
   rfl
theorem qdr (t v : Int) (w : World) : Calls Tryz.prog 50 #[.agg #[.int .i64 t, .int .i64 v]] w fun e w' => e = .returned (.bool (hardB t v)) /\ Below w.heap.size w w' := by
 have hb : Below w.heap.size w (w.alloc (.cells #[.int .i64 t, .int .i64 v] 32)) := blq.alloc nlq _
 unfold hardB
 have hv : decide (v <= 2) = decide (v < 3) := by
  apply Bool.eq_iff_iff.2
  simp
  omega
 rw [hv]
 clear hv
 by_cases h1 : 0 <= t
 · rw [decide_eq_true h1,Bool.true_and]
   by_cases h2 : t <= 1099511627776
   · rw [decide_eq_true h2,Bool.true_and]
     by_cases h3 : -1 <= v
     · rw [decide_eq_true h3,Bool.true_and]
       go_enter Tryz.func50,Tryz.ntmps50
       go_wp2
       go_ret
       exact ⟨rfl,hb⟩
     · have e1 : decide (-1 <= v) = false := decide_eq_false h3
       have e2 : (-1 <= v) = False := eq_false h3
       rw [e1,Bool.false_and]
       clear h3
       go_enter Tryz.func50,Tryz.ntmps50
       go_wp2
       go_ret
       exact ⟨rfl,hb⟩
   · have e1 : decide (t <= 1099511627776) = false := decide_eq_false h2
     have e2 : (t <= 1099511627776) = False := eq_false h2
     rw [e1,Bool.false_and]
     clear h2
     go_enter Tryz.func50,Tryz.ntmps50
     go_wp2
     go_ret
     exact ⟨rfl,hb⟩
 · have e1 : decide (0 <= t) = false := decide_eq_false h1
   have e2 : (0 <= t) = False := eq_false h1
   rw [e1,Bool.false_and]
   clear h1
   go_enter Tryz.func50,Tryz.ntmps50
   go_wp2
   go_ret
   exact ⟨rfl,hb⟩
theorem qeL (i t : Int) (A : Option Addr) (n c : Nat) (w : World) : Calls Tryz.prog 57 #[entV i t A n c] w fun e w' => e = .returned (.bool (snapB i t n)) /\ Below w.heap.size w w' := by
 have hi := fun W => qf4 i t W
 have hb : Below w.heap.size w (w.alloc (.cells #[.int .i64 i, .int .i64 t, .slice A n c] 35)) := blq.alloc nlq _
 have hs : snapB i t n = if i = 0 /\ t = 0 then decide (n = 0) else qcj i t && decide (n <= 50000) := rfl
 rw [hs]
 clear hs
 by_cases h0 : i = 0 /\ t = 0
 · rw [if_pos h0]
   obtain ⟨rfl,rfl⟩ := h0
   clear hi
   go_enter Tryz.func57,Tryz.ntmps57
   go_wp2
   go_ret
   refine ⟨?_,hb⟩
   show Ending.returned (.bool ((n : Int) == 0)) = _
   rw [qiq]
 · rw [if_neg h0]
   generalize qcj i t = bi at *
   have hif : (i == 0) = false \/ (i = 0 /\ (t == 0) = false /\ (t = 0) = False) := by
    by_cases h : i = 0
    · refine .inr ⟨h,?_,eq_false fun e => h0 ⟨h,e⟩⟩
      exact beq_eq_false_iff_ne.2 fun e => h0 ⟨h,e⟩
    · exact .inl (beq_eq_false_iff_ne.2 h)
   clear h0
   rcases hif with hif | ⟨rfl,htf,htf2⟩
   all_goals
    cases bi
    · go_enter Tryz.func57,Tryz.ntmps57
      go_wp2_with fail
      refine (hi _).mono ?_
      rintro e w1 ⟨rfl,rfl⟩
      go_wp2
      go_ret
      exact ⟨rfl,hb⟩
    · go_enter Tryz.func57,Tryz.ntmps57
      go_wp2_with fail
      refine (hi _).mono ?_
      rintro e w1 ⟨rfl,rfl⟩
      go_wp2
      go_ret
      refine ⟨?_,hb⟩
      show Ending.returned (.bool (decide ((n : Int) <= 50000))) = _
      rw [qe6 n 50000 50000 rfl]
      rfl
end Go.Proofs.YtmeoooojmhhahaaGreat
namespace Go.Proofs.YtmeoooojmhhahaaGreat
open Go.RowKit
theorem Out.box {w : World} {o : Nat} {l : List UInt8} {Z : Nat -> Prop} (h : Out w o l Z) (O : Obj) : Out (w.alloc O) o l (fun k => Z k \/ k = w.heap.size) :=
 (h.out (fun k hk => hk.imp id fun e => Nat.le_of_eq e.symm)).below ((Below.refl w.heap.size w).alloc nlq O) nlq
theorem qea {w : World} {Z : Nat -> Prop} (hZ : ∀ k,Z k -> k < w.heap.size) (O : Obj) : ∀ k,(Z k \/ k = w.heap.size) -> k < (w.alloc O).heap.size := by
 intro k hk
 rw [World.size_alloc]
 rcases hk with h | h
 · have := hZ k h; omega
 · omega
theorem qc.unbox {w w' : World} {Z : Nat -> Prop} {O : Obj} (h : qc (fun k => Z k \/ k = w.heap.size) (w.alloc O) w') : qc Z w w' :=
 (qG w O).trans (h.mono fun k hk => .inl hk)
theorem Out.un {w : World} {o n : Nat} {l : List UInt8} {Z : Nat -> Prop} (h : Out w o l (fun k => Z k \/ k = n)) : Out w o l Z := h.out fun k hk => .inl (.inl hk)
theorem qgZ {Z : Nat -> Prop} {A : Option Addr} {n : Nat} (h : 0 < n -> ∀ g off,A = some ⟨g,off,none⟩ -> Z g) (m : Nat) : 0 < n -> ∀ g off,A = some ⟨g,off,none⟩ -> (Z g \/ g = m) :=
 fun h0 g off e => .inl (h h0 g off e)
theorem qds (i t : Int) (A : Option Addr) (n c : Nat) (d : List UInt8) (w : World) (o : Nat) (l : List UInt8) (Z : Nat -> Prop) (h : Out w o l Z) (hZ : ∀ k,Z k -> k < w.heap.size) (hn : n <= 1099511627776)
 (hd : Lies w A n c d) (hdz : 0 < n -> ∀ g off,A = some ⟨g,off,none⟩ -> Z g) :
 Calls Tryz.prog 150 #[.pointer (some ⟨o,0,none⟩),entV i t A n c] w fun e w' => e = .returned (.tuple #[]) /\ Out w' o (l ++ qH i t d) Z /\ qc Z w w' := by
 have h1 := h.box (.cells #[.int .i64 i, .int .i64 t, .slice A n c] 69)
 have hZ1 := qea hZ (.cells #[.int .i64 i, .int .i64 t, .slice A n c] 69)
 have hd1 := hd.below ((Below.refl w.heap.size w).alloc nlq (.cells #[.int .i64 i, .int .i64 t, .slice A n c] 69)) nlq
 have hdz1 := qgZ hdz w.heap.size
 have hr1 := heap_alloc_new w (.cells #[.int .i64 i, .int .i64 t, .slice A n c] 69)
 have hs1 : w.heap.size < (w.alloc (.cells #[.int .i64 i, .int .i64 t, .slice A n c] 69)).heap.size := by simp
 have hfin : ∀ w',qc (fun k => Z k \/ k = w.heap.size) (w.alloc (.cells #[.int .i64 i, .int .i64 t, .slice A n c] 69)) w' -> qc Z w w' := fun w' hk => hk.unbox
 have e8 : ∀ L : List UInt8,((L ++ num8 i) ++ num8 t) ++ textOf d = L ++ qH i t d := fun L => by unfold qH; simp
 clear h hd hdz hZ
 go_enter Tryz.func150,Tryz.ntmps150
 obtain ⟨⟨a0,a1,a2⟩,_⟩ := row3 hr1
 go_wp2_with fail
 refine (qci i _ rfl _ o l _ h1 hZ1).mono ?_
 rintro e w1 ⟨rfl,h2,k2⟩
 have h2' : Out w1 o (l ++ num8 i) (fun k => Z k \/ k = w.heap.size) := h2
 have hr2 := (k2.block w.heap.size hs1 (.inr rfl)).trans hr1
 have hZ2 : ∀ k,(Z k \/ k = w.heap.size) -> k < w1.heap.size := fun k hk => Nat.lt_of_lt_of_le (hZ1 k hk) k2.size
 have hd2 := hd1.keeps k2 hdz1
 obtain ⟨⟨b0,b1,b2⟩,_⟩ := row3 hr2
 clear a0 a1 a2 h1 h2 hd1
 go_wp2_with fail
 refine (qci t _ rfl w1 o _ _ h2' hZ2).mono ?_
 rintro e w2 ⟨rfl,h3,k3⟩
 have h3' : Out w2 o ((l ++ num8 i) ++ num8 t) (fun k => Z k \/ k = w.heap.size) := h3
 have hr3 := (k3.block w.heap.size (hlt hr2) (.inr rfl)).trans hr2
 have hZ3 : ∀ k,(Z k \/ k = w.heap.size) -> k < w2.heap.size := fun k hk => Nat.lt_of_lt_of_le (hZ2 k hk) k3.size
 have hd3 := hd2.keeps k3 hdz1
 obtain ⟨⟨c0,c1,c2⟩,_⟩ := row3 hr3
 clear b0 b1 b2 h2' h3 hd2
 go_wp2_with fail
 refine (qjF A n c d hn w2 o _ _ h3' hZ3 hd3 hdz1).mono ?_
 rintro e w3 ⟨rfl,h4,k4⟩
 go_wp2
 refine bodyPost_end (results_none rfl _ _ _) rfl ?_
 rw [e8 l] at h4
 exact ⟨rfl,h4.un,hfin _ ((k2.trans k3).trans k4)⟩
structure qfa (w X : World) (o b : Nat) (l : List UInt8) (T : TypeId) (Z : Nat -> Prop) : Prop where
 out : Out X o l (fun k => Z k \/ k = b)
 row : X.heap[b]? = some (.cells #[.int .i64 0, .int .i64 0, .slice none 0 0] T)
 keeps : qc Z w X
 size : X.heap.size = w.heap.size
theorem qfa.zero {w : World} {o b : Nat} {l : List UInt8} {T : TypeId} {Z : Nat -> Prop} {x0 x1 x2 : Value} (hz : ¬ Z b) (h : Out w o l (fun k => Z k \/ k = b)) (hr : w.heap[b]? = some (.cells #[x0,x1,x2] T)) :
 qfa w (((w.setCell ⟨b,0,none⟩ (.int .i64 0)).setCell ⟨b,1,none⟩ (.int .i64 0)).setCell ⟨b,2,none⟩ (.slice none 0 0)) o b l T Z := by
 refine ⟨h.keep (by simp) fun k hk hnz => ?_,qL _ _ _ _ _ _ _ _ _ hr,((qo _ _ _ hz).trans (qo _ _ _ hz)).trans (qo _ _ _ hz),by simp⟩
 have hne : k ≠ b := fun e => hnz (.inr e)
 exact (Below.heap_setCell _ _ _ _ (by exact hne)).trans ((Below.heap_setCell _ _ _ _ (by exact hne)).trans (Below.heap_setCell _ _ _ _ (by exact hne)))
theorem qfb : qH 0 0 [] = List.replicate 20 0 := by decide +kernel
theorem qem (i t : Int) (d : List UInt8) : qab i t d = if rightB i t d.length = true then qH i t d else qH 0 0 [] := by rw [qfb]; rfl
theorem qdL (i t : Int) (d : List UInt8) : qaO i t d = if snapB i t d.length = true then qH i t d else qH 0 0 [] := by rw [qfb]; rfl
theorem qkT (i t : Int) (A : Option Addr) (n c : Nat) (d : List UInt8) (w : World) (o : Nat) (l : List UInt8) (Z : Nat -> Prop) (h : Out w o l Z) (hZ : ∀ k,Z k -> k < w.heap.size) (hn : n <= 1099511627776)
 (hd : Lies w A n c d) (hdz : 0 < n -> ∀ g off,A = some ⟨g,off,none⟩ -> Z g) :
 Calls Tryz.prog 112 #[.pointer (some ⟨o,0,none⟩),entV i t A n c] w fun e w' => e = .returned (.tuple #[]) /\ Out w' o (l ++ qab i t d) Z /\ qc Z w w' := by
 have h1 := h.box (.cells #[.int .i64 i, .int .i64 t, .slice A n c] 69)
 have hZ1 := qea hZ (.cells #[.int .i64 i, .int .i64 t, .slice A n c] 69)
 have hd1 := hd.below ((Below.refl w.heap.size w).alloc nlq (.cells #[.int .i64 i, .int .i64 t, .slice A n c] 69)) nlq
 have hdz1 := qgZ hdz w.heap.size
 have hr1 := heap_alloc_new w (.cells #[.int .i64 i, .int .i64 t, .slice A n c] 69)
 have hs1 : w.heap.size < (w.alloc (.cells #[.int .i64 i, .int .i64 t, .slice A n c] 69)).heap.size := by simp
 have hfin : ∀ w',qc (fun k => Z k) w w' -> qc Z w w' := fun w' hk => hk
 have hbx : qc Z w (w.alloc (.cells #[.int .i64 i, .int .i64 t, .slice A n c] 69)) := qG _ _
 have hzn : ¬ Z w.heap.size := fun hz => absurd (hZ _ hz) (by omega)
 have hR := fun W => qcM i t A n c W
 have hdl := hd.1
 have e8 := qem i t d
 rw [hdl] at e8
 rw [e8]
 clear e8 h hd hdz hZ
 generalize rightB i t n = r at *
 have hP := fun W hO hZ2 hd2 hz2 => qds i t A n c d W o l (fun k => Z k \/ k = w.heap.size) hO hZ2 hn hd2 hz2
 have hP0 := fun W hO hZ2 hd2 hz2 => qds 0 0 none 0 0 [] W o l (fun k => Z k \/ k = w.heap.size) hO hZ2 (by omega) hd2 hz2
 generalize qH i t d = T at *
 generalize qH 0 0 [] = T0 at *
 go_enter Tryz.func112,Tryz.ntmps112
 obtain ⟨⟨a0,a1,a2⟩,_⟩ := row3 hr1
 cases r with
 | true =>
   rw [if_pos rfl]
   clear hP0
   go_wp2_with fail
   refine (hR _).mono ?_
   rintro e w1 ⟨rfl,hb1⟩
   have hr2 := (hb1.block w.heap.size hs1).trans hr1
   have hP := hP w1 (h1.below hb1 nlq) (fun k hk => Nat.lt_of_lt_of_le (hZ1 k hk) hb1.size) (hd1.below hb1 nlq) hdz1
   obtain ⟨⟨b0,b1,b2⟩,_⟩ := row3 hr2
   clear a0 a1 a2 hR
   go_wp2_with fail
   refine hP.mono ?_
   rintro e w2 ⟨rfl,h3,k3⟩
   go_wp2
   refine bodyPost_end (results_none rfl _ _ _) rfl ?_
   exact ⟨rfl,h3.un,(hbx.trans (qe hb1 nlq)).trans (k3.mono fun k hk => .inl hk)⟩
 | false =>
   rw [if_neg (by simp)]
   clear hP
   go_wp2_with fail
   refine (hR _).mono ?_
   rintro e w1 ⟨rfl,hb1⟩
   have hr2 := (hb1.block w.heap.size hs1).trans hr1
   obtain ⟨⟨b0,b1,b2⟩,⟨f0,f1,f2⟩⟩ := row3 hr2
   have hz2 : ∀ k,Z k -> k < w1.heap.size := fun k hk => Nat.lt_of_lt_of_le (hZ1 k (.inl hk)) hb1.size
   have h3 := qfa.zero (w := w1) hzn (h1.below hb1 nlq) hr2
   generalize hX : (((w1.setCell ⟨w.heap.size,0,none⟩ (.int .i64 0)).setCell ⟨w.heap.size,1,none⟩ (.int .i64 0)).setCell ⟨w.heap.size,2,none⟩ (.slice none 0 0)) = X at *
   have hP0 := hP0 X h3.out (fun k hk => by rw [h3.size]; exact Nat.lt_of_lt_of_le (hZ1 k hk) hb1.size) (Lies.nil X) (fun h0 => absurd h0 (by omega))
   obtain ⟨⟨c0,c1,c2⟩,_⟩ := row3 h3.row
   have hkst := h3.keeps
   clear h3 a0 a1 a2 hR
   go_wp2_with fail
   refine hP0.mono ?_
   rintro e w2 ⟨rfl,h3,k3⟩
   go_wp2
   refine bodyPost_end (results_none rfl _ _ _) rfl ?_
   exact ⟨rfl,h3.un,((hbx.trans (qe hb1 nlq)).trans hkst).trans (k3.mono fun k hk => .inl hk)⟩
theorem qkU (i t : Int) (A : Option Addr) (n c : Nat) (d : List UInt8) (w : World) (o : Nat) (l : List UInt8) (Z : Nat -> Prop) (h : Out w o l Z) (hZ : ∀ k,Z k -> k < w.heap.size) (hn : n <= 1099511627776)
 (hd : Lies w A n c d) (hdz : 0 < n -> ∀ g off,A = some ⟨g,off,none⟩ -> Z g) :
 Calls Tryz.prog 151 #[.pointer (some ⟨o,0,none⟩),entV i t A n c] w fun e w' => e = .returned (.tuple #[]) /\ Out w' o (l ++ qaO i t d) Z /\ qc Z w w' := by
 have h1 := h.box (.cells #[.int .i64 i, .int .i64 t, .slice A n c] 35)
 have hZ1 := qea hZ (.cells #[.int .i64 i, .int .i64 t, .slice A n c] 35)
 have hd1 := hd.below ((Below.refl w.heap.size w).alloc nlq (.cells #[.int .i64 i, .int .i64 t, .slice A n c] 35)) nlq
 have hdz1 := qgZ hdz w.heap.size
 have hr1 := heap_alloc_new w (.cells #[.int .i64 i, .int .i64 t, .slice A n c] 35)
 have hs1 : w.heap.size < (w.alloc (.cells #[.int .i64 i, .int .i64 t, .slice A n c] 35)).heap.size := by simp
 have hfin : ∀ w',qc (fun k => Z k) w w' -> qc Z w w' := fun w' hk => hk
 have hbx : qc Z w (w.alloc (.cells #[.int .i64 i, .int .i64 t, .slice A n c] 35)) := qG _ _
 have hzn : ¬ Z w.heap.size := fun hz => absurd (hZ _ hz) (by omega)
 have hR := fun W => qeL i t A n c W
 have hdl := hd.1
 have e8 := qdL i t d
 rw [hdl] at e8
 rw [e8]
 clear e8 h hd hdz hZ
 generalize snapB i t n = r at *
 have hP := fun W hO hZ2 hd2 hz2 => qds i t A n c d W o l (fun k => Z k \/ k = w.heap.size) hO hZ2 hn hd2 hz2
 have hP0 := fun W hO hZ2 hd2 hz2 => qds 0 0 none 0 0 [] W o l (fun k => Z k \/ k = w.heap.size) hO hZ2 (by omega) hd2 hz2
 generalize qH i t d = T at *
 generalize qH 0 0 [] = T0 at *
 go_enter Tryz.func151,Tryz.ntmps151
 obtain ⟨⟨a0,a1,a2⟩,_⟩ := row3 hr1
 cases r with
 | true =>
   rw [if_pos rfl]
   clear hP0
   go_wp2_with fail
   refine (hR _).mono ?_
   rintro e w1 ⟨rfl,hb1⟩
   have hr2 := (hb1.block w.heap.size hs1).trans hr1
   have hP := hP w1 (h1.below hb1 nlq) (fun k hk => Nat.lt_of_lt_of_le (hZ1 k hk) hb1.size) (hd1.below hb1 nlq) hdz1
   obtain ⟨⟨b0,b1,b2⟩,_⟩ := row3 hr2
   clear a0 a1 a2 hR
   go_wp2_with fail
   refine hP.mono ?_
   rintro e w2 ⟨rfl,h3,k3⟩
   go_wp2
   refine bodyPost_end (results_none rfl _ _ _) rfl ?_
   exact ⟨rfl,h3.un,(hbx.trans (qe hb1 nlq)).trans (k3.mono fun k hk => .inl hk)⟩
 | false =>
   rw [if_neg (by simp)]
   clear hP
   go_wp2_with fail
   refine (hR _).mono ?_
   rintro e w1 ⟨rfl,hb1⟩
   have hr2 := (hb1.block w.heap.size hs1).trans hr1
   obtain ⟨⟨b0,b1,b2⟩,⟨f0,f1,f2⟩⟩ := row3 hr2
   have hz2 : ∀ k,Z k -> k < w1.heap.size := fun k hk => Nat.lt_of_lt_of_le (hZ1 k (.inl hk)) hb1.size
   have h3 := qfa.zero (w := w1) hzn (h1.below hb1 nlq) hr2
   generalize hX : (((w1.setCell ⟨w.heap.size,0,none⟩ (.int .i64 0)).setCell ⟨w.heap.size,1,none⟩ (.int .i64 0)).setCell ⟨w.heap.size,2,none⟩ (.slice none 0 0)) = X at *
   have hP0 := hP0 X h3.out (fun k hk => by rw [h3.size]; exact Nat.lt_of_lt_of_le (hZ1 k hk) hb1.size) (Lies.nil X) (fun h0 => absurd h0 (by omega))
   obtain ⟨⟨c0,c1,c2⟩,_⟩ := row3 h3.row
   have hkst := h3.keeps
   clear h3 a0 a1 a2 hR
   go_wp2_with fail
   refine hP0.mono ?_
   rintro e w2 ⟨rfl,h3,k3⟩
   go_wp2
   refine bodyPost_end (results_none rfl _ _ _) rfl ?_
   exact ⟨rfl,h3.un,((hbx.trans (qe hb1 nlq)).trans hkst).trans (k3.mono fun k hk => .inl hk)⟩
end Go.Proofs.YtmeoooojmhhahaaGreat
namespace Go.Proofs.YtmeoooojmhhahaaGreat
open Go.RowKit
structure Two1 (w X : World) (o b : Nat) (l : List UInt8) (T : TypeId) (Z : Nat -> Prop) : Prop where
 out : Out X o l (fun k => Z k \/ k = b)
 row : X.heap[b]? = some (.cells #[.int .i64 0, .int .i64 0] T)
 keeps : qc Z w X
 size : X.heap.size = w.heap.size
theorem Two1.zero {w : World} {o b : Nat} {l : List UInt8} {T : TypeId} {Z : Nat -> Prop} {x0 x1 : Value} (hz : ¬ Z b) (h : Out w o l (fun k => Z k \/ k = b)) (hr : w.heap[b]? = some (.cells #[x0,x1] T)) :
 Two1 w ((w.setCell ⟨b,0,none⟩ (.int .i64 0)).setCell ⟨b,1,none⟩ (.int .i64 0)) o b l T Z := by
 refine ⟨h.keep (by simp) fun k hk hnz => ?_,qR _ _ _ _ _ _ _ hr,(qo _ _ _ hz).trans (qo _ _ _ hz),by simp⟩
 have hne : k ≠ b := fun e => hnz (.inr e)
 exact (Below.heap_setCell _ _ _ _ (by exact hne)).trans (Below.heap_setCell _ _ _ _ (by exact hne))
theorem qjP : num8 0 ++ num8 0 = List.replicate 16 0 := by decide +kernel
def qcN (t v : Int) : List UInt8 := num8 t ++ num8 v
theorem qcu (t v : Int) : qaP t v = if hardB t v = true then qcN t v else qcN 0 0 := by
 unfold qcN
 rw [qjP]
 rfl
theorem qkV (t v : Int) (w : World) (o : Nat) (l : List UInt8) (Z : Nat -> Prop) (h : Out w o l Z) (hZ : ∀ k,Z k -> k < w.heap.size) :
 Calls Tryz.prog 108 #[.pointer (some ⟨o,0,none⟩), .agg #[.int .i64 t, .int .i64 v]] w fun e w' => e = .returned (.tuple #[]) /\ Out w' o (l ++ qaP t v) Z /\ qc Z w w' := by
 have h1 := h.box (.cells #[.int .i64 t, .int .i64 v] 32)
 have hZ1 := qea hZ (.cells #[.int .i64 t, .int .i64 v] 32)
 have hr1 := heap_alloc_new w (.cells #[.int .i64 t, .int .i64 v] 32)
 have hs1 : w.heap.size < (w.alloc (.cells #[.int .i64 t, .int .i64 v] 32)).heap.size := by simp
 have hbx : qc Z w (w.alloc (.cells #[.int .i64 t, .int .i64 v] 32)) := qG _ _
 have hzn : ¬ Z w.heap.size := fun hz => absurd (hZ _ hz) (by omega)
 have hR := fun W => qdr t v W
 rw [qcu]
 generalize hardB t v = r at *
 have e8 : ∀ z1 z2 : Int,(l ++ num8 z1) ++ num8 z2 = l ++ qcN z1 z2 := fun z1 z2 => by unfold qcN; simp
 clear h hZ
 cases r with
 | true =>
   rw [if_pos rfl]
   obtain ⟨⟨a0,a1⟩,_⟩ := row2 hr1
   go_enter Tryz.func108,Tryz.ntmps108
   go_wp2_with fail
   refine (hR _).mono ?_
   rintro e w1 ⟨rfl,hb1⟩
   have hr2 := (hb1.block w.heap.size hs1).trans hr1
   obtain ⟨⟨b0,b1⟩,⟨f0,f1⟩⟩ := row2 hr2
   have h2 := h1.below hb1 nlq
   have hZ2 : ∀ k,(Z k \/ k = w.heap.size) -> k < w1.heap.size := fun k hk => Nat.lt_of_lt_of_le (hZ1 k hk) hb1.size
   have hk2 : qc Z w w1 := hbx.trans (qe hb1 nlq)
   clear a0 a1 hR h1 hZ1 hb1 hbx hr1 hs1
   go_wp2_with fail
   refine (qci t _ rfl w1 o _ _ h2 hZ2).mono ?_
   rintro e w2 ⟨rfl,h3,k3⟩
   have h3' : Out w2 o (l ++ num8 t) (fun k => Z k \/ k = w.heap.size) := h3
   have hr3 := (k3.block w.heap.size (hlt hr2) (.inr rfl)).trans hr2
   have hZ3 : ∀ k,(Z k \/ k = w.heap.size) -> k < w2.heap.size := fun k hk => Nat.lt_of_lt_of_le (hZ2 k hk) k3.size
   obtain ⟨⟨c0,c1⟩,_⟩ := row2 hr3
   clear b0 b1 f0 f1 h3
   go_wp2_with fail
   refine (qci v _ rfl w2 o _ _ h3' hZ3).mono ?_
   rintro e w3 ⟨rfl,h4,k4⟩
   have h4' : Out w3 o ((l ++ num8 t) ++ num8 v) (fun k => Z k \/ k = w.heap.size) := h4
   rw [e8] at h4'
   go_wp2
   refine bodyPost_end (results_none rfl _ _ _) rfl ?_
   exact ⟨rfl,h4'.un,hk2.trans ((k3.trans k4).mono fun k hk => .inl hk)⟩
 | false =>
   rw [if_neg (by simp)]
   obtain ⟨⟨a0,a1⟩,_⟩ := row2 hr1
   go_enter Tryz.func108,Tryz.ntmps108
   go_wp2_with fail
   refine (hR _).mono ?_
   rintro e w1 ⟨rfl,hb1⟩
   have hr2 := (hb1.block w.heap.size hs1).trans hr1
   obtain ⟨⟨b0,b1⟩,⟨f0,f1⟩⟩ := row2 hr2
   have h2 := h1.below hb1 nlq
   have hZ2 : ∀ k,(Z k \/ k = w.heap.size) -> k < w1.heap.size := fun k hk => Nat.lt_of_lt_of_le (hZ1 k hk) hb1.size
   have hk2 : qc Z w w1 := hbx.trans (qe hb1 nlq)
   clear a0 a1 hR h1 hZ1 hb1 hbx hr1 hs1
   have h3 := Two1.zero (w := w1) hzn h2 hr2
   generalize hX : ((w1.setCell ⟨w.heap.size,0,none⟩ (.int .i64 0)).setCell ⟨w.heap.size,1,none⟩ (.int .i64 0)) = X at *
   obtain ⟨⟨c0,c1⟩,_⟩ := row2 h3.row
   have hr3 := h3.row
   have hkst := h3.keeps
   have hO3 := h3.out
   have hZ3 : ∀ k,(Z k \/ k = w.heap.size) -> k < X.heap.size := fun k hk => by rw [h3.size]; exact hZ2 k hk
   clear h3 h2
   go_wp2_with fail
   refine (qci 0 _ rfl X o _ _ hO3 hZ3).mono ?_
   rintro e w2 ⟨rfl,h3,k3⟩
   have h3' : Out w2 o (l ++ num8 0) (fun k => Z k \/ k = w.heap.size) := h3
   have hr4 := (k3.block w.heap.size (hlt hr3) (.inr rfl)).trans hr3
   have hZ4 : ∀ k,(Z k \/ k = w.heap.size) -> k < w2.heap.size := fun k hk => Nat.lt_of_lt_of_le (hZ3 k hk) k3.size
   obtain ⟨⟨d0,d1⟩,_⟩ := row2 hr4
   clear b0 b1 f0 f1 c0 c1 h3 hO3 hX
   go_wp2_with fail
   refine (qci 0 _ rfl w2 o _ _ h3' hZ4).mono ?_
   rintro e w3 ⟨rfl,h4,k4⟩
   have h4' : Out w3 o ((l ++ num8 0) ++ num8 0) (fun k => Z k \/ k = w.heap.size) := h4
   rw [e8] at h4'
   go_wp2
   refine bodyPost_end (results_none rfl _ _ _) rfl ?_
   exact ⟨rfl,h4'.un,(hk2.trans hkst).trans ((k3.trans k4).mono fun k hk => .inl hk)⟩
theorem qdM (b : Bool) (w : World) (i : Nat) (s : St) (Z : Nat -> Prop) (h : In w i s Z) :
 Calls Tryz.prog 160 #[.pointer (some ⟨i,0,none⟩), .bool b] w fun e w' => e = .returned (.bool (b && s.isSome)) /\ In w' i (if b = true then s else none) Z /\ qc Z w w' := by
 cases b with
 | true =>
   have hB := qip w i s Z h
   have hs : s.isSome = !s.isNone := by cases s <;> rfl
   rw [if_pos rfl,Bool.true_and,hs]
   clear hs
   generalize s.isNone = n at *
   go_enter Tryz.func160,Tryz.ntmps160
   go_wp2_with fail
   refine hB.mono ?_
   rintro e w1 ⟨rfl,rfl⟩
   go_wp2
   go_ret
   exact ⟨rfl,h,qc.refl _ _⟩
 | false =>
   rw [if_neg (by simp),Bool.false_and]
   have hF := qcr w i s Z h
   go_enter Tryz.func160,Tryz.ntmps160
   go_wp2_with fail
   refine hF.mono ?_
   rintro e w1 ⟨rfl,h1,k1⟩
   have hB := qip w1 i none Z h1
   go_wp2_with fail
   refine hB.mono ?_
   rintro e w2 ⟨rfl,rfl⟩
   go_wp2
   go_ret
   exact ⟨rfl,h1,k1⟩
end Go.Proofs.YtmeoooojmhhahaaGreat
namespace Go.Proofs.YtmeoooojmhhahaaGreat
open Go.RowKit
theorem qc.own3 {w w1 w2 : World} {Z : Nat -> Prop} (h : qc Z w w1) (k : qc (fun k => k ≠ w.heap.size) w1 w2) : qc Z w w2 :=
 ⟨k.os.trans h.os,k.tape.trans h.tape,k.output.trans h.output,Nat.le_trans h.size k.size,fun j hj hz => (k.block j (Nat.lt_of_lt_of_le hj h.size) (Nat.ne_of_lt hj)).trans (h.block j hj hz)⟩
structure Set3 (w X : World) (b i : Nat) (s : St) (Z : Nat -> Prop) (D : Option Addr) (n c : Nat) (d : List UInt8) (C : Array Value) (T : TypeId) : Prop where
 row : X.heap[b]? = some (.cells C T)
 inn : In X i s Z
 lies : Lies X D n c d
 keeps : qc (fun k => k ≠ b) w X
 size : X.heap.size = w.heap.size
theorem Set3.fin {w : World} {b i : Nat} {s : St} {Z : Nat -> Prop} {D : Option Addr} {n c : Nat} {d : List UInt8} {x0 x1 x2 : Value} {T : TypeId} (y0 y1 y2 : Value) (hib : i ≠ b) (hr : w.heap[b]? = some (.cells #[x0,x1,x2] T)) (h : In w i s Z) (hzb : Z b)
 (hl : Lies w D n c d) (hD : 0 < n -> ∀ g off,D = some ⟨g,off,none⟩ -> b < g) :
 Set3 w (((w.setCell ⟨b,0,none⟩ y0).setCell ⟨b,1,none⟩ y1).setCell ⟨b,2,none⟩ y2) b i s Z D n c d #[y0,y1,y2] T := by
 have hoff : ∀ k,k ≠ b -> (((w.setCell ⟨b,0,none⟩ y0).setCell ⟨b,1,none⟩ y1).setCell ⟨b,2,none⟩ y2).heap[k]? = w.heap[k]? := fun k hk =>
  (Below.heap_setCell _ _ _ _ (by exact hk)).trans ((Below.heap_setCell _ _ _ _ (by exact hk)).trans (Below.heap_setCell _ _ _ _ (by exact hk)))
 refine ⟨qL _ _ _ _ _ _ _ _ _ hr,h.keep (by simp) fun k _ hnz => hoff k fun e => hnz (e ▸ hzb),hl.keep (by simp) fun h0 g off e _ => hoff g fun e2 => ?_,?_,by simp⟩
 · have := hD h0 g off e; omega
 · exact (((qo _ _ _ (by simp)).trans (qo _ _ _ (by simp))).trans (qo _ _ _ (by simp)))
theorem qjQ (w : World) (i : Nat) (s : St) (Z : Nat -> Prop) (most : Int) (hm : -9223372036854775808 <= most /\ most <= 9223372036854775807) (h : In w i s Z) (hZ : ∀ k,w.heap.size <= k -> Z k) (hL : left s <= 140737488355328) :
 Calls Tryz.prog 159 #[.pointer (some ⟨i,0,none⟩), .int .i64 most] w fun e w' => ∃ D n c,e = .returned (entV (qI s most).i (qI s most).t D n c) /\ Lies w' D n c (qI s most).d /\ (0 < n -> ∀ g off,D = some ⟨g,off,none⟩ -> w.heap.size <= g) /\ In w' i (qI s most).s Z /\ qc Z w w' := by
 have h1 := h.below ((Below.refl w.heap.size w).alloc nlq (.cells #[.int .i64 0, .int .i64 0, .slice none 0 0] 69)) nlq
 have hr1 := heap_alloc_new w (.cells #[.int .i64 0, .int .i64 0, .slice none 0 0] 69)
 have hk1 : qc Z w (w.alloc (.cells #[.int .i64 0, .int .i64 0, .slice none 0 0] 69)) := qG _ _
 have hs1 : w.heap.size < (w.alloc (.cells #[.int .i64 0, .int .i64 0, .slice none 0 0] 69)).heap.size := by simp
 have hzb : Z w.heap.size := hZ _ nlq
 have hib : i ≠ w.heap.size := Nat.ne_of_lt h.lt
 have hN1 := fun W hW => qby W i s Z hW
 have hL1 := qar s 8 hL
 unfold qI
 generalize numberN s 8 = t1 at *
 obtain ⟨n1,s1⟩ := t1
 dsimp only at *
 have hN2 := fun W hW => qby W i s1 Z hW
 have hL2 := qar s1 8 hL1
 generalize numberN s1 8 = t2 at *
 obtain ⟨n2,s2⟩ := t2
 dsimp only at *
 have hT := fun W hW => qel most hm W i s2 Z hW hL2
 generalize qaY s2 most = t3 at *
 obtain ⟨d,s3⟩ := t3
 dsimp only at *
 rw [IntWalk.i64_left,IntWalk.i64_left] at *
 generalize wrap64 (n1 : Int) = z1 at *
 generalize wrap64 (n2 : Int) = z2 at *
 clear hL hL1 hL2 hm h
 go_enter Tryz.func159,Tryz.ntmps159
 go_wp2_with fail
 refine (hN1 _ h1).mono ?_
 rintro e w1 ⟨rfl,h2,k2⟩
 have hr2 := (k2.block w.heap.size hs1 hzb).trans hr1
 clear h1 hN1
 go_wp2_with fail
 refine (hN2 _ h2).mono ?_
 rintro e w2 ⟨rfl,h3,k3⟩
 have hr3 := (k3.block w.heap.size (hlt hr2) hzb).trans hr2
 clear h2 hN2
 go_wp2_with fail
 refine (hT _ h3).mono ?_
 rintro e w3 ⟨D,n,c,rfl,hl4,ho4,h4,k4⟩
 have hr4 := (k4.block w.heap.size (hlt hr3) hzb).trans hr3
 obtain ⟨⟨a0,a1,a2⟩,⟨f0,f1,f2⟩⟩ := row3 hr4
 have hkw : qc Z w w3 := ((hk1.trans k2).trans k3).trans k4
 have hD2 : w.heap.size < w2.heap.size := hlt hr3
 have hDz : 0 < n -> ∀ g off,D = some ⟨g,off,none⟩ -> w.heap.size < g := fun h0 g off e => by
  subst e
  exact Nat.lt_of_lt_of_le hD2 (ho4.lt g rfl).1
 have hfin := Set3.fin (.int .i64 z1) (.int .i64 z2) (.slice D n c) hib hr4 h4 hzb hl4 hDz
 clear hT h3 k2 k3 k4 hk1 hr1 hr2 hr3 h4 hl4 ho4 hr4
 go_wp2
 generalize hX : ((w3.setCell ⟨w.heap.size,0,none⟩ (.int .i64 z1)).setCell ⟨w.heap.size,1,none⟩ (.int .i64 z2)).setCell ⟨w.heap.size,2,none⟩ (.slice D n c) = X at *
 refine bodyPost_ret (qQ (n := w.heap.size) rfl rfl hfin.row Tryz.underlying69 rfl (by kernel_rfl)) rfl ?_
 exact ⟨D,n,c,rfl,hfin.lies,fun h0 g off e => Nat.le_of_lt (hDz h0 g off e),hfin.inn,hkw.own3 hfin.keeps⟩
end Go.Proofs.YtmeoooojmhhahaaGreat
namespace Go.Proofs.YtmeoooojmhhahaaGreat
open Go.RowKit
end Go.Proofs.YtmeoooojmhhahaaGreat
namespace Go.Proofs.YtmeoooojmhhahaaGreat
open Go.RowKit
theorem qkW (w : World) (i : Nat) (s : St) (Z : Nat -> Prop) (h : In w i s Z) (hZ : ∀ k,w.heap.size <= k -> Z k) (hL : left s <= 140737488355328) :
 Calls Tryz.prog 133 #[.pointer (some ⟨i,0,none⟩)] w fun e w' => ∃ D n c,e = .returned (entV (fromN snapB s 50000).i (fromN snapB s 50000).t D n c) /\ Lies w' D n c (fromN snapB s 50000).d /\ (0 < n -> ∀ g off,D = some ⟨g,off,none⟩ -> w.heap.size <= g) /\ In w' i (fromN snapB s 50000).s Z /\ qc Z w w' := by
 have h1 := h.below ((Below.refl w.heap.size w).alloc nlq (.cells #[.int .i64 0, .int .i64 0, .slice none 0 0] 35)) nlq
 have hr1 := heap_alloc_new w (.cells #[.int .i64 0, .int .i64 0, .slice none 0 0] 35)
 have hk1 : qc Z w (w.alloc (.cells #[.int .i64 0, .int .i64 0, .slice none 0 0] 35)) := qG _ _
 have hs1 : (w.alloc (.cells #[.int .i64 0, .int .i64 0, .slice none 0 0] 35)).heap.size = w.heap.size + 1 := by simp
 have hzb : Z w.heap.size := hZ _ nlq
 have hib : i ≠ w.heap.size := Nat.ne_of_lt h.lt
 have hT := fun W (hW : In W i s Z) (hZ : ∀ k,W.heap.size <= k -> Z k) => qjQ W i s Z 50000 (by omega) hW hZ hL
 unfold fromN
 generalize qI s 50000 = T at *
 obtain ⟨ti,tt,td,ts⟩ := T
 dsimp only at *
 obtain ⟨R,hR⟩ : ∃ R : FromL,R = if ts = none then ⟨0,0,[],none⟩ else if snapB ti tt td.length = true then ⟨ti,tt,td,ts⟩ else ⟨0,0,[],none⟩ := ⟨_,rfl⟩
 rw [<- hR]
 clear hL h
 go_enter Tryz.func133,Tryz.ntmps133
 go_wp2_with fail
 refine (hT _ h1 (fun k hk => hZ k (by omega))).mono ?_
 rintro e w1 ⟨D,n,c,rfl,hl1,hD1,h2,k2⟩
 have hr2 := (k2.block w.heap.size (by omega) hzb).trans hr1
 have hlb : w.heap.size < w1.heap.size := hlt hr2
 have hD0 : 0 < n -> ∀ g off,D = some ⟨g,off,none⟩ -> w.heap.size < g := fun h0 g off e => by have := hD1 h0 g off e; omega
 have hDz : 0 < n -> ∀ g off,D = some ⟨g,off,none⟩ -> Z g := fun h0 g off e => hZ g (Nat.le_of_lt (hD0 h0 g off e))
 have hkw1 : qc Z w w1 := hk1.trans k2
 have hn := hl1.1
 rw [hn] at hR
 have hZ1 : Z w1.heap.size := hZ _ (Nat.le_of_lt hlb)
 clear hT h1 k2 hk1 hr1 hs1 hD1 hn
 -- the entry in a block of its own
 have hA1 := (Below.refl w1.heap.size w1).alloc nlq (.cells #[.int .i64 ti, .int .i64 tt, .slice D n c] 35)
 have h3 := h2.below hA1 nlq
 have hr3 := (hA1.block w.heap.size hlb).trans hr2
 have hq3 := heap_alloc_new w1 (.cells #[.int .i64 ti, .int .i64 tt, .slice D n c] 35)
 have hl3 := hl1.below hA1 nlq
 have hkw3 : qc Z w (w1.alloc (.cells #[.int .i64 ti, .int .i64 tt, .slice D n c] 35)) := hkw1.trans (qG _ _)
 clear h2 hl1 hA1 hr2 hkw1
 have hP := fun W => qeL ti tt D n c W
 generalize snapB ti tt n = r at *
 obtain ⟨⟨a0,a1,a2⟩,_⟩ := row3 hq3
 go_wp2_with fail
 refine (hP _).mono ?_
 rintro e w2 ⟨rfl,hb2⟩
 have h4 := h3.below hb2 nlq
 have hr4 := (hb2.block _ (hlt hr3)).trans hr3
 have hq4 := (hb2.block _ (hlt hq3)).trans hq3
 have hl4 := hl3.below hb2 nlq
 have hkw4 : qc Z w w2 := hkw3.trans (qe hb2 nlq)
 clear h3 hr3 hq3 hl3 hkw3 hb2 a0 a1 a2 hP
 have hS := qdM r w2 i ts Z h4
 go_wp2_with fail
 refine hS.mono ?_
 rintro e w3 ⟨rfl,h5,k5⟩
 have hr5 := (k5.block _ (hlt hr4) hzb).trans hr4
 have hq5 := (k5.block _ (hlt hq4) hZ1).trans hq4
 have hl5 := hl4.keeps k5 hDz
 have hkw5 : qc Z w w3 := hkw4.trans k5
 clear hS h4 hr4 hq4 hl4 hkw4 k5
 obtain ⟨⟨a0,a1,a2⟩,⟨f0,f1,f2⟩⟩ := row3 hr5
 obtain ⟨⟨b0,b1,b2⟩,_⟩ := row3 hq5
 by_cases hyes : r = true /\ ∃ sl,ts = some sl
 · obtain ⟨rfl,sl,rfl⟩ := hyes
   rw [if_neg (by simp),if_pos rfl] at hR
   rw [if_pos rfl] at h5
   have hfin := Set3.fin (.int .i64 ti) (.int .i64 tt) (.slice D n c) hib hr5 h5 hzb hl5 hD0
   have HR := Lib.hid hR
   clear hR hr5 hq5 h5 hl5
   simp only [Option.isSome,Bool.true_and] at *
   go_wp2
   generalize hX : ((w3.setCell ⟨w.heap.size,0,none⟩ (.int .i64 ti)).setCell ⟨w.heap.size,1,none⟩ (.int .i64 tt)).setCell ⟨w.heap.size,2,none⟩ (.slice D n c) = X at *
   refine bodyPost_ret (qQ (n := w.heap.size) rfl rfl hfin.row Tryz.underlying35 rfl (by kernel_rfl)) rfl ?_
   have e : R = _ := HR
   rw [e]
   exact ⟨D,n,c,rfl,hfin.lies,fun h0 g off e => Nat.le_of_lt (hD0 h0 g off e),hfin.inn,hkw5.own3 hfin.keeps⟩
 · have hno : (r && ts.isSome) = false := by
    cases r with
    | false => rfl
    | true =>
      cases ts with
      | none => rfl
      | some l => exact absurd ⟨rfl,l,rfl⟩ hyes
   have hRz : R = ⟨0,0,[],none⟩ := by
    rw [hR]
    cases r with
    | false => split <;> rfl
    | true =>
      cases ts with
      | none => rfl
      | some l => exact absurd ⟨rfl,l,rfl⟩ hyes
   have hsz : (if r = true then ts else none) = none := by
    cases r with
    | false => rfl
    | true =>
      cases ts with
      | none => rfl
      | some l => exact absurd ⟨rfl,l,rfl⟩ hyes
   rw [hsz] at h5
   have hfin := Set3.fin (.int .i64 0) (.int .i64 0) (.slice none 0 0) hib hr5 h5 hzb (Lies.nil w3) (fun h0 => absurd h0 (by omega))
   have HR := Lib.hid hRz
   clear hR hr5 hq5 h5 hl5 hyes hsz hRz
   generalize (r && ts.isSome) = q at *
   subst hno
   go_wp2
   generalize hX : ((w3.setCell ⟨w.heap.size,0,none⟩ (.int .i64 0)).setCell ⟨w.heap.size,1,none⟩ (.int .i64 0)).setCell ⟨w.heap.size,2,none⟩ (.slice none 0 0) = X at *
   refine bodyPost_ret (qQ (n := w.heap.size) rfl rfl hfin.row Tryz.underlying35 rfl (by kernel_rfl)) rfl ?_
   have e : R = _ := HR
   rw [e]
   exact ⟨none,0,0,rfl,hfin.lies,fun h0 => absurd h0 (by omega),hfin.inn,hkw5.own3 hfin.keeps⟩
end Go.Proofs.YtmeoooojmhhahaaGreat
namespace Go.Proofs.YtmeoooojmhhahaaGreat
open Go.RowKit
theorem qc.own2 {w w1 w2 : World} {Z : Nat -> Prop} (h : qc Z w w1) (k : qc (fun k => k ≠ w.heap.size) w1 w2) : qc Z w w2 := h.own3 k
structure Set2 (w X : World) (b i : Nat) (s : St) (Z : Nat -> Prop) (C : Array Value) (T : TypeId) : Prop where
 row : X.heap[b]? = some (.cells C T)
 inn : In X i s Z
 keeps : qc (fun k => k ≠ b) w X
 size : X.heap.size = w.heap.size
theorem Set2.fin {w : World} {b i : Nat} {s : St} {Z : Nat -> Prop} {x0 x1 : Value} {T : TypeId} (y0 y1 : Value) (hib : i ≠ b) (hr : w.heap[b]? = some (.cells #[x0,x1] T)) (h : In w i s Z) (hzb : Z b) :
 Set2 w ((w.setCell ⟨b,0,none⟩ y0).setCell ⟨b,1,none⟩ y1) b i s Z #[y0,y1] T := by
 have hoff : ∀ k,k ≠ b -> ((w.setCell ⟨b,0,none⟩ y0).setCell ⟨b,1,none⟩ y1).heap[k]? = w.heap[k]? := fun k hk =>
  (Below.heap_setCell _ _ _ _ (by exact hk)).trans (Below.heap_setCell _ _ _ _ (by exact hk))
 refine ⟨qR _ _ _ _ _ _ _ hr,h.keep (by simp) fun k _ hnz => hoff k fun e => hnz (e ▸ hzb),?_,by simp⟩
 exact (qo _ _ _ (by simp)).trans (qo _ _ _ (by simp))
theorem qkX (w : World) (i : Nat) (s : St) (Z : Nat -> Prop) (h : In w i s Z) (hZ : ∀ k,w.heap.size <= k -> Z k) :
 Calls Tryz.prog 137 #[.pointer (some ⟨i,0,none⟩)] w fun e w' => e = .returned (.agg #[.int .i64 (hardFromN s).t, .int .i64 (hardFromN s).v]) /\ In w' i (hardFromN s).s Z /\ qc Z w w' := by
 have h1 := h.below ((Below.refl w.heap.size w).alloc nlq (.cells #[.int .i64 0, .int .i64 0] 32)) nlq
 have hr1 := heap_alloc_new w (.cells #[.int .i64 0, .int .i64 0] 32)
 have hk1 : qc Z w (w.alloc (.cells #[.int .i64 0, .int .i64 0] 32)) := qG _ _
 have hzb : Z w.heap.size := hZ _ nlq
 have hib : i ≠ w.heap.size := Nat.ne_of_lt h.lt
 have hN1 := fun W hW => qby W i s Z hW
 unfold hardFromN
 generalize numberN s 8 = t1 at *
 obtain ⟨n1,s1⟩ := t1
 dsimp only at *
 have hN2 := fun W hW => qby W i s1 Z hW
 generalize numberN s1 8 = t2 at *
 obtain ⟨n2,ts⟩ := t2
 dsimp only at *
 rw [IntWalk.i64_left,IntWalk.i64_left] at *
 obtain ⟨R,hR⟩ : ∃ R : HardL,R = if ts = none then ⟨0,0,none⟩ else if hardB (wrap64 (n1 : Int)) (wrap64 (n2 : Int)) = true then ⟨wrap64 (n1 : Int),wrap64 (n2 : Int),ts⟩ else ⟨0,0,none⟩ := ⟨_,rfl⟩
 rw [<- hR]
 generalize wrap64 (n1 : Int) = z1 at *
 generalize wrap64 (n2 : Int) = z2 at *
 clear h
 go_enter Tryz.func137,Tryz.ntmps137
 go_wp2_with fail
 refine (hN1 _ h1).mono ?_
 rintro e w0 ⟨rfl,h2,k2⟩
 have hr2 := (k2.block w.heap.size (hlt hr1) hzb).trans hr1
 have hkw0 := hk1.trans k2
 clear h1 hN1 hr1 k2 hk1
 go_wp2_with fail
 refine (hN2 _ h2).mono ?_
 rintro e w1 ⟨rfl,h2',k3⟩
 have hr2' := (k3.block w.heap.size (hlt hr2) hzb).trans hr2
 have hlb : w.heap.size < w1.heap.size := hlt hr2'
 have hkw1 := hkw0.trans k3
 have hZ1 : Z w1.heap.size := hZ _ (Nat.le_of_lt hlb)
 clear h2 hN2 hr2 k3 hkw0
 have hA1 := (Below.refl w1.heap.size w1).alloc nlq (.cells #[.int .i64 z1, .int .i64 z2] 32)
 have h3 := h2'.below hA1 nlq
 have hr3 := (hA1.block w.heap.size hlb).trans hr2'
 have hq3 := heap_alloc_new w1 (.cells #[.int .i64 z1, .int .i64 z2] 32)
 have hkw3 : qc Z w (w1.alloc (.cells #[.int .i64 z1, .int .i64 z2] 32)) := hkw1.trans (qG _ _)
 clear h2' hA1 hr2' hkw1
 have hP := fun W => qdr z1 z2 W
 generalize hardB z1 z2 = r at *
 obtain ⟨⟨a0,a1⟩,_⟩ := row2 hq3
 go_wp2_with fail
 refine (hP _).mono ?_
 rintro e w2 ⟨rfl,hb2⟩
 have h4 := h3.below hb2 nlq
 have hr4 := (hb2.block _ (hlt hr3)).trans hr3
 have hq4 := (hb2.block _ (hlt hq3)).trans hq3
 have hkw4 : qc Z w w2 := hkw3.trans (qe hb2 nlq)
 clear h3 hr3 hq3 hkw3 hb2 a0 a1 hP
 have hS := qdM r w2 i ts Z h4
 go_wp2_with fail
 refine hS.mono ?_
 rintro e w3 ⟨rfl,h5,k5⟩
 have hr5 := (k5.block _ (hlt hr4) hzb).trans hr4
 have hq5 := (k5.block _ (hlt hq4) hZ1).trans hq4
 have hkw5 : qc Z w w3 := hkw4.trans k5
 clear hS h4 hr4 hq4 hkw4 k5
 obtain ⟨⟨a0,a1⟩,⟨f0,f1⟩⟩ := row2 hr5
 obtain ⟨⟨b0,b1⟩,_⟩ := row2 hq5
 by_cases hyes : r = true /\ ∃ sl,ts = some sl
 · obtain ⟨rfl,sl,rfl⟩ := hyes
   rw [if_neg (by simp),if_pos rfl] at hR
   rw [if_pos rfl] at h5
   have hfin := Set2.fin (.int .i64 z1) (.int .i64 z2) hib hr5 h5 hzb
   have HR := Lib.hid hR
   clear hR hr5 hq5 h5
   simp only [Option.isSome,Bool.true_and] at *
   go_wp2
   generalize hX : (w3.setCell ⟨w.heap.size,0,none⟩ (.int .i64 z1)).setCell ⟨w.heap.size,1,none⟩ (.int .i64 z2) = X at *
   refine bodyPost_ret (qQ (n := w.heap.size) rfl rfl hfin.row Tryz.underlying32 rfl (by kernel_rfl)) rfl ?_
   have e : R = _ := HR
   rw [e]
   exact ⟨rfl,hfin.inn,hkw5.own2 hfin.keeps⟩
 · have hno : (r && ts.isSome) = false := by
    cases r with
    | false => rfl
    | true =>
      cases ts with
      | none => rfl
      | some l => exact absurd ⟨rfl,l,rfl⟩ hyes
   have hRz : R = ⟨0,0,none⟩ := by
    rw [hR]
    cases r with
    | false => split <;> rfl
    | true =>
      cases ts with
      | none => rfl
      | some l => exact absurd ⟨rfl,l,rfl⟩ hyes
   have hsz : (if r = true then ts else none) = none := by
    cases r with
    | false => rfl
    | true =>
      cases ts with
      | none => rfl
      | some l => exact absurd ⟨rfl,l,rfl⟩ hyes
   rw [hsz] at h5
   have hfin := Set2.fin (.int .i64 0) (.int .i64 0) hib hr5 h5 hzb
   have HR := Lib.hid hRz
   clear hR hr5 hq5 h5 hyes hsz hRz
   generalize (r && ts.isSome) = q at *
   subst hno
   go_wp2
   generalize hX : (w3.setCell ⟨w.heap.size,0,none⟩ (.int .i64 0)).setCell ⟨w.heap.size,1,none⟩ (.int .i64 0) = X at *
   refine bodyPost_ret (qQ (n := w.heap.size) rfl rfl hfin.row Tryz.underlying32 rfl (by kernel_rfl)) rfl ?_
   have e : R = _ := HR
   rw [e]
   exact ⟨rfl,hfin.inn,hkw5.own2 hfin.keeps⟩
end Go.Proofs.YtmeoooojmhhahaaGreat
namespace Go.Proofs.YtmeoooojmhhahaaGreat
open Go.RowKit
theorem qeM (Z : Nat -> Prop) (A : Option Addr) (len cap : Nat) (ls : List Ent) (i t : Int) (w : World) (h : Ents w Z A len cap ls) (hm : len <= maxLen) :
 Calls Tryz.prog 41 #[.int .i64 i, .int .i64 t, .slice A len cap] w fun e w' => e = .returned (.bool (runB i t ls)) /\ Below w.heap.size w w' := by
 unfold maxLen at hm
 have hll := h.1
 go_enter Tryz.func41,Tryz.ntmps41
 go_wp2
 go_loopg [0,1,8,11] len (fun g ii tt r kk wr => ∃ k : Nat,k + g = len /\ kk = .int .i64 (k : Int) /\ ii = .int .i64 (qa5 i ls k) /\ tt = .int .i64 (qbg t ls k) /\ (∀ j,j < k -> qbE i t ls j = true) /\ Below w.heap.size w wr)
 case atStart => exact ⟨0,by omega,rfl,rfl,rfl,fun j hj => absurd hj (by omega),blq⟩
 case round =>
  obtain ⟨k,hk,rfl,rfl,rfl,hall,hb⟩ := hrel
  by_cases hlt : k < len
  · have hlt' : (k : Int) < (len : Int) := by omega
    have hbelow := h.below hb nlq
    obtain ⟨g,off,E,c,rfl,hg,x0,x1,x2,hl⟩ := hbelow.at_ k hlt
    have hst := qct i t ls k (by omega)
    have hnx := qdJ i t ls k (by omega)
    have HNI := Lib.hid hnx.1
    have HNT := Lib.hid hnx.2
    clear hnx
    generalize hpT : qbg t ls k = T at *
    generalize hpI : qa5 i ls k = I at *
    generalize (ls[k]'(by omega)) = a at *
    obtain ⟨ai,at_,ad⟩ := a
    dsimp only at *
    have hR := fun W => qcM ai at_ E ad.length c W
    have hri := qaB ai at_ ad.length
    have hA1 := (Below.refl wr.heap.size wr).alloc nlq (.cells #[.int .i64 ai, .int .i64 at_, .slice E ad.length c] 69)
    have hr1 := heap_alloc_new wr (.cells #[.int .i64 ai, .int .i64 at_, .slice E ad.length c] 69)
    have hbA : Below w.heap.size w (wr.alloc (.cells #[.int .i64 ai, .int .i64 at_, .slice E ad.length c] 69)) := hb.trans (hA1.mono hb.size)
    generalize ad.length = n at *
    obtain ⟨⟨y0,y1,y2⟩,_⟩ := row3 hr1
    have HALL := Lib.hid hall
    have HK := Lib.hid hk
    have hsz : wr.heap.size < (wr.alloc (.cells #[.int .i64 ai, .int .i64 at_, .slice E n c] 69)).heap.size := by simp
    cases hb2 : rightB ai at_ n with
    | false =>
      rw [hb2] at hR hst
      rw [Bool.false_and] at hst
      have HF := Lib.hid (qbS (i := i) (t := t) (l := ls) k (by omega) hst)
      clear hst hpT hpI hri hall hk hbelow h hl hb2
      go_wp2_with fail
      refine (hR _).mono ?_
      rintro e w1 ⟨rfl,hb1⟩
      have hbw : Below w.heap.size w w1 := hbA.trans (hb1.mono hbA.size)
      go_wp2
      go_ret
      exact ⟨by have e : runB i t ls = false := HF; rw [e]; rfl,hbw⟩
    | true =>
      rw [hb2,Bool.true_and] at hst
      rw [hb2] at hR
      have hrr := hri.1 hb2
      clear hpT hpI hri hall hk hbelow h hl hb2 hb
      go_wp2_with fail
      refine (hR _).mono ?_
      rintro e w1 ⟨rfl,hb1⟩
      have hbw : Below w.heap.size w w1 := hbA.trans (hb1.mono hbA.size)
      obtain ⟨⟨z0,z1,z2⟩,_⟩ := row3 ((hb1.block _ hsz).trans hr1)
      obtain ⟨J,hJ⟩ : ∃ J,ai - 1 = J := ⟨_,rfl⟩
      have q4 : wrap64 (ai - 1) = J := by rw [<- hJ,<- IntWalk.i64_left]; exact IntWalk.i64_in _ (by omega)
      clear hR x0 x1 x2 y0 y1 y2 hr1 hA1 hb1 hbA hsz
      by_cases hI : ai = I + 1
      · have hJI : J = I := by omega
        subst hJI
        rw [decide_eq_true hI,Bool.and_true] at hst
        clear hI hJ
        by_cases hT : T <= at_
        · have q1 : (at_ < T) = False := eq_false (by omega)
          have HST := Lib.hid (hst.trans (decide_eq_true hT))
          clear hst hT hrr
          go_wp2
          go_big_quiet (fail)
          go_wp2
          go_roundg (gk - 1)
          case measure => have : k + gk = len := HK; omega
          case rel => exact ⟨k + 1,by have : k + gk = len := HK; omega,by go_num,by have e : qa5 i ls (k + 1) = ai := HNI; rw [e],by have e : qbg t ls (k + 1) = at_ := HNT; rw [e],fun j hj => by
           rcases Nat.lt_or_ge j k with h1 | h1
           · exact (HALL : ∀ j,j < k -> qbE i t ls j = true) j h1
           · have e : j = k := by omega
             rw [e]; exact HST,below_drewN hbw _⟩
        · have q1 : at_ < T := by omega
          have HF := Lib.hid (qbS (i := i) (t := t) (l := ls) k (by omega) (by rw [hst,decide_eq_false hT]))
          clear hst hT hrr
          go_wp2
          go_ret
          exact ⟨by have e : runB i t ls = false := HF; rw [e]; rfl,hbw⟩
      · have hJI : ¬ J = I := by omega
        have q5 : (J != I) = true := by simp [hJI]
        have q6 : (J = I) = False := eq_false hJI
        have HF := Lib.hid (qbS (i := i) (t := t) (l := ls) k (by omega) (by rw [hst,decide_eq_false hI,Bool.and_false]))
        clear hst hrr hI hJ hJI
        go_wp2
        go_ret
        exact ⟨by have e : runB i t ls = false := HF; rw [e]; rfl,hbw⟩
  · obtain rfl : k = len := by omega
    have hdec : decide ((k : Int) < (k : Int)) = false := decide_eq_false (by omega)
    have HT := Lib.hid (qgW (i := i) (t := t) (l := ls) (fun j hj => hall j (by omega)))
    clear h hall hk hm
    go_wp2
    go_ret
    exact ⟨by have e : runB i t ls = true := HT; rw [e]; rfl,hb⟩
end Go.Proofs.YtmeoooojmhhahaaGreat
namespace Go.Proofs.YtmeoooojmhhahaaGreat
open Go.RowKit
theorem qc2 {i t : Int} {n : Nat} (h : rightB i t n = true) : (-9223372036854775808 <= i /\ i <= 9223372036854775807) /\ (-9223372036854775808 <= t /\ t <= 9223372036854775807) /\ n <= 12000 := by
 have := (qaB i t n).1 h
 omega
theorem qcd {i t : Int} {n : Nat} (h : snapB i t n = true) : (-9223372036854775808 <= i /\ i <= 9223372036854775807) /\ (-9223372036854775808 <= t /\ t <= 9223372036854775807) /\ n <= 50000 := by
 unfold snapB at h
 split at h
 · rename_i h0
   have := of_decide_eq_true h
   omega
 · simp only [Bool.and_eq_true,decide_eq_true_eq] at h
   have h1 := (qeI i).1 h.1.1
   have h2 := (qeI t).1 h.1.2
   omega
theorem qa2 (i t : Int) (d : List UInt8) : (qH i t d).length = 20 + d.length := by
 unfold qH num8
 simp [textOf]
 omega
theorem qdN (t v : Int) : (qcN t v).length = 16 := by
 unfold qcN num8
 simp
theorem qfc {i t : Int} {d : List UInt8} : (qab i t d).length <= 20 + d.length := by
 unfold qab
 split
 · rw [qa2]; omega
 · simp
theorem qeN (t v : Int) : (qaP t v).length = 16 := by
 rw [qcu]
 split <;> exact qdN _ _
end Go.Proofs.YtmeoooojmhhahaaGreat
