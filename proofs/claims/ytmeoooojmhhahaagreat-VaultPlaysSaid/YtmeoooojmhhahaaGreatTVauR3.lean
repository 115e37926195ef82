/- Rows of entries that are picked out of others. -/
import Derived.Test.YtmeoooojmhhahaaGreatTVauR2
set_option linter.unusedVariables false
set_option linter.unusedSimpArgs false
set_option maxRecDepth 100000
set_option maxHeartbeats 3200000
namespace Go.Proofs.YtmeoooojmhhahaaGreat
open Go.RowKit
theorem qb7 (xs ys : List Lay) : rowOf (xs ++ ys) = rowOf xs ++ rowOf ys := by simp [rowOf]
theorem Ents.ofAnyV {w : World} {Z : Nat -> Prop} {base : Nat} {T : TypeId} {v : Value} {xs : List Lay} (h : w.ownsRow base T 3 v xs.length (rowOf xs)) (hz : ∀ k,base <= k -> Z k) (hok : ∀ x ∈ xs,qZ w Z x) :
 ∃ A c,v = .slice A xs.length c /\ Ents w Z A xs.length c (xs.map (·.e)) := by
 rcases h.2 with ⟨rfl,h0⟩ | ⟨g,cap,cur,rfl,hb,_⟩
 · obtain rfl : xs = [] := List.eq_nil_of_length_eq_zero h0
   exact ⟨none,0,rfl,rfl,nlq,fun _ => rfl,fun h => absurd h (by simp)⟩
 · exact ⟨some ⟨g,0,none⟩,cap,rfl,Ents.ofRow h rfl (hz g hb) hok⟩
theorem qbB {w : World} {base : Nat} {T : TypeId} {v : Value} {n : Nat} {row : List Value} (h : w.ownsRow base T 3 v n row) : ∃ A c,v = .slice A n c := by
 rcases h.2 with ⟨rfl,h0⟩ | ⟨g,cap,cur,rfl,_⟩
 · exact ⟨none,0,by rw [h0]⟩
 · exact ⟨_,_,rfl⟩
theorem qa1 (w : World) (x : Lay) (T : TypeId) : ∀ j u,(rowOf [x])[j]? = some u -> (w.alloc (.cells #[.int .i64 x.e.i, .int .i64 x.e.t, .slice x.A x.e.d.length x.c] T)).cell? ((⟨w.heap.size,0,none⟩ : Addr).add j) = some u := by
 intro j u hu
 rw [Addr.add_lit,Nat.zero_add,cell_of_row _ _ _ _ _ _ (heap_alloc_new w _)]
 have e : rowOf [x] = [.int .i64 x.e.i, .int .i64 x.e.t, .slice x.A x.e.d.length x.c] := by simp [rowOf,cells3]
 rw [e] at hu
 simpa using hu
theorem qcn {w : World} {g off : Nat} {xs : List Lay} (hc : ∀ j u,(rowOf xs)[j]? = some u -> w.cell? ((⟨g,off,none⟩ : Addr).add j) = some u) (k : Nat) (hk : k < xs.length) :
 w.cell? ⟨g,off + k * 3,none⟩ = some (.int .i64 xs[k].e.i) /\ w.cell? ⟨g,off + k * 3 + 1,none⟩ = some (.int .i64 xs[k].e.t) /\ w.cell? ⟨g,off + k * 3 + 2,none⟩ = some (.slice xs[k].A xs[k].e.d.length xs[k].c) := by
 have h : ∀ r (hr : r < 3),w.cell? ⟨g,off + (k * 3 + r),none⟩ = (cells3 xs[k])[r]? := fun r hr => by
  have e := qdp xs k r hk hr
  have hl : r < (cells3 xs[k]).length := by simp [cells3]; omega
  rw [List.getElem?_eq_getElem hl] at e ⊢
  have := hc _ _ e
  rwa [Addr.add_lit] at this
 exact ⟨h 0 (by omega),h 1 (by omega),h 2 (by omega)⟩
theorem qls (w : World) (Z : Nat -> Prop) (x : Lay) (T : TypeId) (hz : Z w.heap.size) (hok : qZ w Z x) : Ents (w.alloc (.cells #[.int .i64 x.e.i, .int .i64 x.e.t, .slice x.A x.e.d.length x.c] T)) Z (some ⟨w.heap.size,0,none⟩) 1 1 [x.e] := by
 obtain ⟨c0,c1,c2⟩ := qcn (qa1 w x T) 0 (by simp)
 obtain ⟨h1,h2,h3⟩ := hok
 refine ⟨rfl,nlq,(fun e => by cases e),fun _ => ⟨w.heap.size,0,rfl,by simp,hz,fun j hj => ?_⟩⟩
 have : j < 1 := hj
 obtain rfl : j = 0 := by omega
 exact ⟨x.A,x.c,c0,c1,c2,h1,h2.below (blq.alloc nlq _) nlq,h3⟩
def picked (p : Ent -> Bool) (xs : List Lay) (k : Nat) : List Lay := (xs.take k).filter fun x => p x.e
theorem qfE {p : Ent -> Bool} {xs : List Lay} {k : Nat} (hk : k < xs.length) (hp : p xs[k].e = true) : picked p xs (k + 1) = picked p xs k ++ [xs[k]] := by
 unfold picked
 rw [List.take_succ_eq_append_getElem hk,List.filter_append]
 simp [hp]
theorem qgr {p : Ent -> Bool} {xs : List Lay} {k : Nat} (hk : k < xs.length) (hp : p xs[k].e = false) : picked p xs (k + 1) = picked p xs k := by
 unfold picked
 rw [List.take_succ_eq_append_getElem hk,List.filter_append]
 simp [hp]
theorem qbi (p : Ent -> Bool) (xs : List Lay) (k : Nat) : (picked p xs k).length <= k := by
 unfold picked
 exact Nat.le_trans (List.length_filter_le _ _) (by rw [List.length_take]; omega)
theorem qcg {p : Ent -> Bool} {xs : List Lay} {k : Nat} {x : Lay} (h : x ∈ picked p xs k) : x ∈ xs := List.mem_of_mem_take (List.mem_filter.1 h).1
theorem qch (p : Ent -> Bool) (xs : List Lay) : (picked p xs xs.length).map (·.e) = (xs.map (·.e)).filter p := by
 unfold picked
 rw [List.take_length,List.filter_map]
 rfl
theorem qhG {w : World} {Z : Nat -> Prop} {A : Option Addr} {c : Nat} {ys : List Lay} (hE : Ents w Z A ys.length c (ys.map (·.e))) :
 ys = [] \/ ∃ (q : Ent) (g off m : Nat),A = some ⟨g,off,none⟩ /\ (ys.map (·.e)).getLast? = some q /\ ys.length = m + 1 /\ w.cell? ⟨g,off + m * 3,none⟩ = some (.int .i64 q.i) /\ w.cell? ⟨g,off + m * 3 + 1,none⟩ = some (.int .i64 q.t) := by
 rcases Nat.eq_zero_or_pos ys.length with h0 | h0
 · exact .inl (List.length_eq_zero_iff.1 h0)
 · obtain ⟨g,off,E,c3,e,_,z0,z1,_⟩ := hE.at_ (ys.length - 1) (by omega)
   have hl : (ys.map (·.e)).length - 1 = ys.length - 1 := by rw [List.length_map]
   refine .inr ⟨(ys.map (·.e))[ys.length - 1]'(by rw [List.length_map]; omega),g,off,ys.length - 1,e,?_,by omega,z0,z1⟩
   rw [List.getLast?_eq_getElem?]
   exact (congrArg (fun n => (ys.map (·.e))[n]?) hl).trans (List.getElem?_eq_getElem _)
theorem qdA {w w3 : World} {Z : Nat -> Prop} {base : Nat} {T : TypeId} {v3 : Value} {ys : List Lay} {x : Lay} {n : Nat} (hys : ∀ y ∈ ys,qZ w Z y) (hx : qZ w Z x) (hb : Below w.heap.size w w3) (hz : ∀ k,base <= k -> Z k) (hn : ys.length + 1 = n) (ho : w3.ownsRow base T 3 v3 n (rowOf ys ++ rowOf [x])) :
 ∃ A c,v3 = .slice A n c /\ Ents w3 Z A n c (ys.map (·.e) ++ [x.e]) /\ (ys.map (·.e) ++ [x.e]).length = n := by
 have hl : (ys ++ [x]).length = n := by rw [List.length_append,<- hn]; rfl
 rw [<- qb7,<- hl] at ho
 obtain ⟨A,c,e,hE⟩ := Ents.ofAnyV (Z := Z) ho hz fun y hy => by
  rcases List.mem_append.1 hy with hy | hy
  · exact (hys y hy).keep hb.size fun q hq _ => hb.block q hq
  · rw [List.mem_singleton.1 hy]; exact hx.keep hb.size fun q hq _ => hb.block q hq
 have e2 : (ys ++ [x]).map (·.e) = ys.map (·.e) ++ [x.e] := by rw [List.map_append]; rfl
 have e3 : (ys.map (·.e) ++ [x.e]).length = (ys ++ [x]).length := by rw [<- e2,List.length_map]
 rw [e2] at hE
 rw [hl] at e hE e3
 exact ⟨A,c,e,hE,e3⟩
end Go.Proofs.YtmeoooojmhhahaaGreat
namespace Go.Proofs.YtmeoooojmhhahaaGreat
open Go.RowKit
def PutR (w w' : World) (Z : Nat -> Prop) (l : List Ent) (e : Ent) (en : Ending) : Prop :=
 Below w.heap.size w w' /\ match putE l e with
  | some m => ∃ A c,en = .returned (.tuple #[.slice A m.length c, .bool true]) /\ Ents w' Z A m.length c m
  | none => en = .returned (.tuple #[.slice none 0 0, .bool false])
theorem qkv (Z : Nat -> Prop) (A : Option Addr) (len cap : Nat) (l : List Ent) (x : Lay) (w : World) (h : Ents w Z A len cap l) (hok : qZ w Z x) (hZ : ∀ k,w.heap.size <= k -> Z k) (hm : len <= 100000) (hi : 0 <= x.e.i /\ x.e.i <= 4611686018427387904) :
 Calls Tryz.prog 101 #[.slice A len cap,entV x.e.i x.e.t x.A x.e.d.length x.c] w fun en w' => PutR w w' Z l x.e en := by
 have hll := h.1
 have hb0 : Below w.heap.size w (w.alloc (.cells #[.int .i64 x.e.i, .int .i64 x.e.t, .slice x.A x.e.d.length x.c] 69)) := blq.alloc nlq _
 have hrow := heap_alloc_new w (.cells #[.int .i64 x.e.i, .int .i64 x.e.t, .slice x.A x.e.d.length x.c] 69)
 obtain ⟨⟨a0,a1,a2⟩,_⟩ := row3 hrow
 by_cases hfirst : ∃ f t,l = f :: t /\ x.e.i < f.i
 · obtain ⟨f,t,rfl,hlt⟩ := hfirst
   have hput : putE (f :: t) x.e = some [x.e] := by unfold putE; rw [if_pos (decide_eq_true hlt)]
   have hlen : 0 < len := by rw [<- hll]; simp
   obtain ⟨g,off,E,c,rfl,hg,c0,c1,c2,c3⟩ := (h.below hb0 nlq).at_ 0 hlen
   rw [Nat.zero_mul,Nat.add_zero] at c0
   have hlt' : x.e.i < ((f :: t)[0]'(by simp)).i := hlt
   generalize ((f :: t)[0]'(by simp)).i = fi at c0 hlt'
   have hd1 : decide ((len : Int) > 0) = true := by simp; omega
   have hd2 : (0 : Int) < (len : Int) := by omega
   have HPU := Lib.hid hput
   have HO := Lib.hid hok
   clear c1 c2 c3 h hput hok hll
   go_enter Tryz.func101,Tryz.ntmps101
   go_wp2
   go_quiet (fail)
   go_wp2
   have hE := qls ((w.alloc (.cells #[.int .i64 x.e.i, .int .i64 x.e.t, .slice x.A x.e.d.length x.c] 69)).drewN nq) Z x 69 (hZ _ (by have := hb0.size; exact this)) (HO.out.keep hb0.size fun k hk _ => hb0.block k hk)
   have hsz : ((w.alloc (.cells #[.int .i64 x.e.i, .int .i64 x.e.t, .slice x.A x.e.d.length x.c] 69)).drewN nq).heap.size = w.heap.size + 1 := World.size_alloc _ _
   rw [hsz] at hE
   refine bodyPost_ret (results_tmp2 rfl _ _ _) rfl ?_
   unfold PutR
   rw [HPU.out]
   exact ⟨(below_drewN hb0 nq).alloc (by rw [hsz]; omega) _,_,_,rfl,hE⟩
 · have hput : putE l x.e = match (l.filter fun g => decide (g.i < x.e.i)).getLast? with
    | none => some [x.e]
    | some f => if f.i = x.e.i - 1 /\ f.t <= x.e.t then some (l.filter (fun g => decide (g.i < x.e.i)) ++ [x.e]) else none := by
    cases l with
    | nil => rfl
    | cons f t =>
      unfold putE
      rw [if_neg fun hc => hfirst ⟨f,t,rfl,of_decide_eq_true hc⟩]
      rfl
   obtain ⟨xs,hxs,hxok,hcell⟩ := h.lays
   have hxl : xs.length = len := by rw [<- hll,<- hxs,List.length_map]
   have hg0 : 0 < len -> ∃ g0 off0,A = some ⟨g0,off0,none⟩ /\ g0 < w.heap.size := fun h0 => by
    obtain ⟨g0,off0,e,hg,_⟩ := h.2.2.2 h0
    exact ⟨g0,off0,e,hg⟩
   have hf0 : ∀ (h0 : 0 < xs.length),¬ x.e.i < xs[0].e.i := fun h0 hlt => by
    refine hfirst ⟨xs[0].e,(xs.drop 1).map (·.e),?_,hlt⟩
    rw [<- hxs]
    conv => lhs; rw [<- List.take_append_drop 1 xs]
    rw [List.map_append,List.take_one]
    simp [List.head?_eq_getElem?,List.getElem?_eq_getElem h0]
   have HP := Lib.hid hput
   clear hput hfirst
   have HO := Lib.hid hok
   have HXS := Lib.hid hxs
   clear hok hxs h
   rcases Nat.eq_zero_or_pos len with h0 | h0
   · have hd1 : decide ((len : Int) > 0) = false := by simp; omega
     have hd2 : ((0 : Int) < (len : Int)) = False := eq_false (by omega)
     go_enter Tryz.func101,Tryz.ntmps101
     go_wp2
     go_quiet (fail)
     go_wp2
     have hb1 := below_drewN hb0 nq
     have hrow1 := hrow
     change ((w.alloc (.cells #[.int .i64 x.e.i, .int .i64 x.e.t, .slice x.A x.e.d.length x.c] 69)).drewN nq).heap[w.heap.size]? = _ at hrow1
     generalize (w.alloc (.cells #[.int .i64 x.e.i, .int .i64 x.e.t, .slice x.A x.e.d.length x.c] 69)).drewN nq = W0 at *
     clear hb0 hrow a0 a1 a2
     go_loopg [6,7,25] len (fun g v s7 kk wr => ∃ k : Nat,k + g = len /\ kk = .int .i64 (k : Int) /\ wr.ownsRow (w.heap.size + 1) 69 3 v (picked (fun g => decide (g.i < x.e.i)) xs k).length (rowOf (picked (fun g => decide (g.i < x.e.i)) xs k)) /\ Below w.heap.size w wr /\ wr.heap[w.heap.size]? = some (.cells #[.int .i64 x.e.i, .int .i64 x.e.t, .slice x.A x.e.d.length x.c] 69))
     case atStart => exact ⟨0,by omega,rfl,World.ownsRow_nil _ _ _ _,hb1,hrow1⟩
     case round =>
      clear hb1 hrow1
      obtain ⟨k,hk,rfl,ho,hbr,hrr⟩ := hrel
      obtain ⟨⟨b0,b1,b2⟩,_⟩ := row3 hrr
      obtain ⟨A',c',rfl⟩ := qbB ho
      have HK := Lib.hid hk
      by_cases hkn : k < len
      · exact absurd hkn (by omega)
      · obtain rfl : k = len := by omega
        have hkk : ¬ ((k : Int) < (k : Int)) := by omega
        have hmap : (picked (fun g => decide (g.i < x.e.i)) xs k).map (·.e) = l.filter (fun g => decide (g.i < x.e.i)) := by rw [<- HXS.out,<- qch,hxl]
        have hxw : ∀ y ∈ picked (fun g => decide (g.i < x.e.i)) xs k,qZ w Z y := fun y hy => hxok y (qcg hy)
        have hsl := qbi (fun g => decide (g.i < x.e.i)) xs k
        have hwi : wrap64 (x.e.i - 1) = x.e.i - 1 := IntWalk.wrap64_in _ (by omega)
        have hwi2 : IntKind.i64.wrap (x.e.i - 1) = x.e.i - 1 := IntWalk.i64_in _ (by omega)
        have hput := HP.out
        rw [<- hmap] at hput
        generalize hSK : picked (fun g => decide (g.i < x.e.i)) xs k = ys at *
        clear hmap hSK HP
        have hb1 : w.heap.size + 1 <= wr.heap.size := hlt hrr
        have hdg : ∀ q',(Value.slice A' ys.length c').ownBlock = some q' -> w.heap.size + 1 <= q' := fun q' e => (World.ownsRow.lt ho q' e).1
        obtain ⟨Ae,ce,ee,hE⟩ := Ents.ofAnyV ho (fun q hq => hZ q (by omega)) (fun y hy => (hxw y hy).keep hbr.size fun q hq _ => hbr.block q hq)
        injection ee with e1 e2 e3
        subst e1 e3
        clear hcell hxok
        rcases qhG hE with hnil | ⟨q,g3,off3,m,rfl,hlast,hm1,z0,z1⟩
        · subst hnil
          have hyl : ([] : List Lay).length + 1 = 0 + 1 := rfl
          rw [List.map_nil] at hput
          have HFIN := Lib.hid (show putE l x.e = some ((([] : List Lay).map (·.e)) ++ [x.e]) from hput)
          have hyb : 0 + 1 <= 1000000 := by omega
          have hd0 : decide (((0 : Nat) : Int) > 0) = false := rfl
          have hd01 : decide ((0 : Int) > 0) = false := rfl
          clear hput hE hsl
          change wr.ownsRow (w.heap.size + 1) 69 3 (.slice A' 0 c') 0 (rowOf []) at ho
          change ∀ q',(Value.slice A' 0 c').ownBlock = some q' -> w.heap.size + 1 <= q' at hdg
          obtain ⟨ys,hys⟩ : ∃ ys : List Lay,ys = [] := ⟨_,rfl⟩
          rw [<- hys] at ho hxw HFIN hyl
          clear hys
          go_wp2
          go_quiet (fail)
          have hbq : Below w.heap.size w (wr.drewN nq) := below_drewN hbr nq
          have hoq := qaa ho (w' := wr.drewN nq) (fun _ _ => rfl)
          replace b0 : (wr.drewN nq).cell? ⟨w.heap.size,0,none⟩ = some (.int .i64 x.e.i) := b0
          replace b1 : (wr.drewN nq).cell? ⟨w.heap.size,1,none⟩ = some (.int .i64 x.e.t) := b1
          replace b2 : (wr.drewN nq).cell? ⟨w.heap.size,2,none⟩ = some (.slice x.A x.e.d.length x.c) := b2
          clear hrr ho
          replace hb1 : w.heap.size + 1 <= (wr.drewN nq).heap.size := hb1
          have hone := qa1 (wr.drewN nq) x 69
          generalize wr.drewN nq = wq at *
          have hA2 := (Below.refl wq.heap.size wq).alloc nlq (.cells #[.int .i64 x.e.i, .int .i64 x.e.t, .slice x.A x.e.d.length x.c] 69)
          have hbr2 := hbq.trans (hA2.mono hbq.size)
          have ho2 := hoq.alloc (.cells #[.int .i64 x.e.i, .int .i64 x.e.t, .slice x.A x.e.d.length x.c] 69)
          generalize hxd : x.e.d.length = xd at *
          go_wp2_with (at_builtin; refine qad _ rfl _ _ rfl (w.heap.size + 1) (by rw [World.size_alloc]; omega) (.slice A' 0 c') 0 (rowOf ys) rfl ho2 ⟨wq.heap.size,0,none⟩ 1 1 [x] rfl (by simp) hone hyb ?_)
          intro v3 w3 ho3 hg3 hb3
          have hbr3 := hbr2.grown hg3 hbr2.size (fun q' e => Nat.le_of_lt (hdg q' e))
          obtain ⟨A3,c3,rfl,hE3,hL3⟩ := qdA hxw HO.out hbr3 (fun q hq => hZ q (by omega)) hyl ho3
          have HE := Lib.hid hE3
          have HLN := Lib.hid hL3
          have HB := Lib.hid hbr3
          clear hb3 hg3 ho3 hbr3 hE3 hL3 ho2 hbr2 hA2 hone hoq hbq
          go_wp2
          refine bodyPost_ret (results_tmp2 rfl _ _ _) rfl ?_
          unfold PutR
          rw [HFIN.out]
          exact ⟨HB.out,A3,c3,by rw [HLN.out]; rfl,by rw [HLN.out]; exact HE.out⟩
        · obtain ⟨yl,hyl0⟩ : ∃ yl,yl = m + 1 := ⟨_,rfl⟩
          have hyl : ys.length + 1 = yl + 1 := by omega
          rw [hm1,<- hyl0] at ho hdg
          rw [hm1,<- hyl0]
          rw [hlast] at hput
          dsimp only at hput
          have hyb : yl + 1 <= 1000000 := by omega
          have hd0 : decide ((yl : Int) > 0) = true := by simp; omega
          have hd01 : (0 : Int) < (yl : Int) := by omega
          have hd02 : 0 < yl := by omega
          have hd03 : decide (0 < yl) = true := decide_eq_true hd02
          have hw1 : wrap64 ((yl : Int) - 1) = (m : Int) := by rw [IntWalk.wrap64_in _ (by omega)]; omega
          have hw2 : IntKind.i64.wrap ((yl : Int) - 1) = (m : Int) := by rw [IntWalk.i64_in _ (by omega)]; omega
          have hmy : (m : Int) < (yl : Int) := by omega
          clear hm1 hlast hE hsl
          generalize q.i = qi at *
          generalize q.t = qt at *
          by_cases hc1 : qi = x.e.i - 1
          · have hc1b : (qi != x.e.i - 1) = false := by simp [hc1]
            by_cases hc2 : qt <= x.e.t
            · have hc2b : decide (qt > x.e.t) = false := by simp; omega
              have hc2c : (x.e.t < qt) = False := eq_false (by omega)
              rw [if_pos ⟨hc1,hc2⟩] at hput
              have HFIN := Lib.hid hput
              clear hput hc1 hc2 hyl0
              go_wp2
              go_quiet (fail)
              have hbq : Below w.heap.size w (wr.drewN nq) := below_drewN hbr nq
              have hoq := qaa ho (w' := wr.drewN nq) (fun _ _ => rfl)
              replace b0 : (wr.drewN nq).cell? ⟨w.heap.size,0,none⟩ = some (.int .i64 x.e.i) := b0
              replace b1 : (wr.drewN nq).cell? ⟨w.heap.size,1,none⟩ = some (.int .i64 x.e.t) := b1
              replace b2 : (wr.drewN nq).cell? ⟨w.heap.size,2,none⟩ = some (.slice x.A x.e.d.length x.c) := b2
              clear hrr ho z0 z1
              replace hb1 : w.heap.size + 1 <= (wr.drewN nq).heap.size := hb1
              have hone := qa1 (wr.drewN nq) x 69
              generalize wr.drewN nq = wq at *
              have hA2 := (Below.refl wq.heap.size wq).alloc nlq (.cells #[.int .i64 x.e.i, .int .i64 x.e.t, .slice x.A x.e.d.length x.c] 69)
              have hbr2 := hbq.trans (hA2.mono hbq.size)
              have ho2 := hoq.alloc (.cells #[.int .i64 x.e.i, .int .i64 x.e.t, .slice x.A x.e.d.length x.c] 69)
              generalize hxd : x.e.d.length = xd at *
              go_wp2_with (at_builtin; refine qad _ rfl _ _ rfl (w.heap.size + 1) (by rw [World.size_alloc]; omega) (.slice (some ⟨g3,off3,none⟩) yl c') yl (rowOf ys) rfl ho2 ⟨wq.heap.size,0,none⟩ 1 1 [x] rfl (by simp) hone hyb ?_)
              intro v3 w3 ho3 hg3 hb3
              have hbr3 := hbr2.grown hg3 hbr2.size (fun q' e => Nat.le_of_lt (hdg q' e))
              obtain ⟨A3,c3,rfl,hE3,hL3⟩ := qdA hxw HO.out hbr3 (fun q hq => hZ q (by omega)) hyl ho3
              have HE := Lib.hid hE3
              have HLN := Lib.hid hL3
              have HB := Lib.hid hbr3
              clear hb3 hg3 ho3 hbr3 hE3 hL3 ho2 hbr2 hA2 hone hoq hbq
              go_wp2
              refine bodyPost_ret (results_tmp2 rfl _ _ _) rfl ?_
              unfold PutR
              rw [HFIN.out]
              exact ⟨HB.out,A3,c3,by rw [HLN.out]; rfl,by rw [HLN.out]; exact HE.out⟩
            · have hc2b : decide (qt > x.e.t) = true := by simp; omega
              have hc2c : x.e.t < qt := by omega
              rw [if_neg fun h => hc2 h.2] at hput
              have HFIN := Lib.hid hput
              have HB := Lib.hid hbr
              clear hput hc1 hc2 hyl0 ho hbr
              go_wp2
              go_quiet (fail)
              go_wp2
              refine bodyPost_ret (results_tmp2 rfl _ _ _) rfl ?_
              unfold PutR
              rw [HFIN.out]
              exact ⟨below_drewN HB.out nq,rfl⟩
          · have hc1b : (qi != x.e.i - 1) = true := by simp [hc1]
            rw [if_neg fun h => hc1 h.1] at hput
            have HFIN := Lib.hid hput
            have HB := Lib.hid hbr
            clear hput hyl0 ho hbr
            go_wp2
            go_quiet (fail)
            go_wp2
            refine bodyPost_ret (results_tmp2 rfl _ _ _) rfl ?_
            unfold PutR
            rw [HFIN.out]
            exact ⟨below_drewN HB.out nq,rfl⟩
   · have hd1 : decide ((len : Int) > 0) = true := by simp; omega
     have hd2 : (0 : Int) < (len : Int) := by omega
     obtain ⟨g0,off0,hA0,hgb⟩ := hg0 h0
     obtain ⟨y0,_,_⟩ := qcn (hcell _ hA0) 0 (by omega)
     rw [Nat.zero_mul,Nat.add_zero] at y0
     have z0 := (hb0.cell (p := ⟨g0,off0,none⟩) hgb).trans y0
     have hf1 := hf0 (by omega)
     generalize (xs[0]'(by omega)).e.i = fi at z0 hf1
     have hd3 : decide (x.e.i < fi) = false := decide_eq_false hf1
     have hd4 : (x.e.i < fi) = False := eq_false hf1
     clear hf0 hf1 y0
     rw [hA0] at hcell ⊢
     clear hA0 hg0
     go_enter Tryz.func101,Tryz.ntmps101
     go_wp2
     go_quiet (fail)
     go_wp2
     have hb1 := below_drewN hb0 nq
     have hrow1 := hrow
     change ((w.alloc (.cells #[.int .i64 x.e.i, .int .i64 x.e.t, .slice x.A x.e.d.length x.c] 69)).drewN nq).heap[w.heap.size]? = _ at hrow1
     generalize (w.alloc (.cells #[.int .i64 x.e.i, .int .i64 x.e.t, .slice x.A x.e.d.length x.c] 69)).drewN nq = W0 at *
     clear hb0 hrow a0 a1 a2
     go_loopg [6,7,25] len (fun g v s7 kk wr => ∃ k : Nat,k + g = len /\ kk = .int .i64 (k : Int) /\ wr.ownsRow (w.heap.size + 1) 69 3 v (picked (fun g => decide (g.i < x.e.i)) xs k).length (rowOf (picked (fun g => decide (g.i < x.e.i)) xs k)) /\ Below w.heap.size w wr /\ wr.heap[w.heap.size]? = some (.cells #[.int .i64 x.e.i, .int .i64 x.e.t, .slice x.A x.e.d.length x.c] 69))
     case atStart => exact ⟨0,by omega,rfl,World.ownsRow_nil _ _ _ _,hb1,hrow1⟩
     case round =>
      clear hb1 hrow1
      obtain ⟨k,hk,rfl,ho,hbr,hrr⟩ := hrel
      obtain ⟨⟨b0,b1,b2⟩,_⟩ := row3 hrr
      obtain ⟨A',c',rfl⟩ := qbB ho
      have HK := Lib.hid hk
      by_cases hkn : k < len
      · have hkn' : (k : Int) < (len : Int) := by omega
        obtain ⟨y0,y1,y2⟩ := qcn (hcell _ rfl) k (by omega)
        have y0 := (hbr.cell (p := ⟨g0,off0 + k * 3,none⟩) hgb).trans y0
        have y1 := (hbr.cell (p := ⟨g0,off0 + k * 3 + 1,none⟩) hgb).trans y1
        have y2 := (hbr.cell (p := ⟨g0,off0 + k * 3 + 2,none⟩) hgb).trans y2
        have hyes := qfE (p := fun g => decide (g.i < x.e.i)) (xs := xs) (k := k) (by omega)
        have hno := qgr (p := fun g => decide (g.i < x.e.i)) (xs := xs) (k := k) (by omega)
        have hsl := qbi (fun g => decide (g.i < x.e.i)) xs k
        have hone := fun n => qa1 (wr.drewN n) (xs[k]'(by omega)) 69
        generalize (xs[k]'(by omega)) = q at *
        generalize hSK : picked (fun g => decide (g.i < x.e.i)) xs k = ys at *
        generalize hyl : ys.length = yl at *
        by_cases hp : q.e.i < x.e.i
        · have hpd : decide (q.e.i < x.e.i) = true := decide_eq_true hp
          have HY := Lib.hid (hyes hpd)
          have hb1 : w.heap.size + 1 <= wr.heap.size := hlt hrr
          have hyb : yl + 1 <= 1000000 := by omega
          have hdg : ∀ q',(Value.slice A' yl c').ownBlock = some q' -> w.heap.size + 1 <= q' := fun q' e => (World.ownsRow.lt ho q' e).1
          clear hyes hno hp hk hsl hcell hxok
          generalize hqd : q.e.d.length = qd at *
          go_wp2
          go_quiet (fail)
          have hbq : Below w.heap.size w (wr.drewN nq) := below_drewN hbr nq
          have hoq := qaa ho (w' := wr.drewN nq) (fun _ _ => rfl)
          have hrq : (wr.drewN nq).heap[w.heap.size]? = some (.cells #[.int .i64 x.e.i, .int .i64 x.e.t, .slice x.A x.e.d.length x.c] 69) := hrr
          have hone := hone nq
          replace hb1 : w.heap.size + 1 <= (wr.drewN nq).heap.size := hb1
          replace y0 : (wr.drewN nq).cell? ⟨g0,off0 + k * 3,none⟩ = some (.int .i64 q.e.i) := y0
          replace y1 : (wr.drewN nq).cell? ⟨g0,off0 + k * 3 + 1,none⟩ = some (.int .i64 q.e.t) := y1
          replace y2 : (wr.drewN nq).cell? ⟨g0,off0 + k * 3 + 2,none⟩ = some (.slice q.A qd q.c) := y2
          generalize wr.drewN nq = wq at *
          have hA2 := (Below.refl wq.heap.size wq).alloc nlq (.cells #[.int .i64 q.e.i, .int .i64 q.e.t, .slice q.A qd q.c] 69)
          have hrr2 := (hA2.block _ (hlt hrq)).trans hrq
          have hbr2 := hbq.trans (hA2.mono hbq.size)
          have ho2 := hoq.alloc (.cells #[.int .i64 q.e.i, .int .i64 q.e.t, .slice q.A qd q.c] 69)
          go_wp2_with (at_builtin; refine qad _ rfl _ _ rfl (w.heap.size + 1) (by rw [World.size_alloc]; omega) (.slice A' yl c') yl (rowOf ys) rfl ho2 ⟨wq.heap.size,0,none⟩ 1 1 [q] rfl rfl hone hyb ?_)
          intro v3 w3 ho3 hg3 hb3
          have hbr3 := hbr2.grown hg3 hbr2.size (fun q' e => Nat.le_of_lt (hdg q' e))
          have hrr3 := (hg3.block w.heap.size (hlt hrr2) (fun e => by have := hdg _ e.symm; omega)).trans hrr2
          rw [<- qb7] at ho3
          have HO3 := Lib.hid ho3
          have HB3 := Lib.hid hbr3
          have HR3 := Lib.hid hrr3
          have HYL := Lib.hid hyl
          obtain ⟨A3,c3,rfl⟩ := qbB ho3
          clear hb3 hg3 ho2 hrr2 hbr2 hA2 hbr hrr ho hone hb1 hyb hdg y0 y1 y2 ho3 hbr3 hrr3 hpd hSK hyl hoq hbq hrq b0 b1 b2
          go_wp2
          go_roundg (gk - 1)
          case measure => have : k + gk = len := HK.out; omega
          case rel =>
           have eY : picked (fun g => decide (g.i < x.e.i)) xs (k + 1) = ys ++ [q] := HY.out
           have eL : (ys ++ [q]).length = yl + 1 := by rw [List.length_append,show ys.length = yl from HYL.out]; rfl
           exact ⟨k + 1,by have : k + gk = len := HK.out; omega,by go_num,by rw [eY,eL]; exact HO3.out,HB3.out,HR3.out⟩
        · have hpd : decide (q.e.i < x.e.i) = false := decide_eq_false hp
          have hpe : (q.e.i < x.e.i) = False := eq_false hp
          have HN := Lib.hid (hno hpd)
          have HYL := Lib.hid hyl
          have HO := Lib.hid ho
          have HB := Lib.hid hbr
          have HR := Lib.hid hrr
          clear hyes hno hp hk hsl hcell hxok hSK hyl ho hone hbr
          go_wp2
          go_quiet (fail)
          go_wp2
          go_roundg (gk - 1)
          case measure => have : k + gk = len := HK.out; omega
          case rel =>
           have eY : picked (fun g => decide (g.i < x.e.i)) xs (k + 1) = ys := HN.out
           exact ⟨k + 1,by have : k + gk = len := HK.out; omega,by go_num,by rw [eY,show ys.length = yl from HYL.out]; exact qaa HO.out (fun _ _ => rfl),below_drewN HB.out _,HR.out⟩
      · obtain rfl : k = len := by omega
        have hkk : ¬ ((k : Int) < (k : Int)) := by omega
        have hmap : (picked (fun g => decide (g.i < x.e.i)) xs k).map (·.e) = l.filter (fun g => decide (g.i < x.e.i)) := by rw [<- HXS.out,<- qch,hxl]
        have hxw : ∀ y ∈ picked (fun g => decide (g.i < x.e.i)) xs k,qZ w Z y := fun y hy => hxok y (qcg hy)
        have hsl := qbi (fun g => decide (g.i < x.e.i)) xs k
        have hwi : wrap64 (x.e.i - 1) = x.e.i - 1 := IntWalk.wrap64_in _ (by omega)
        have hwi2 : IntKind.i64.wrap (x.e.i - 1) = x.e.i - 1 := IntWalk.i64_in _ (by omega)
        have hput := HP.out
        rw [<- hmap] at hput
        generalize hSK : picked (fun g => decide (g.i < x.e.i)) xs k = ys at *
        clear hmap hSK HP
        have hb1 : w.heap.size + 1 <= wr.heap.size := hlt hrr
        have hdg : ∀ q',(Value.slice A' ys.length c').ownBlock = some q' -> w.heap.size + 1 <= q' := fun q' e => (World.ownsRow.lt ho q' e).1
        obtain ⟨Ae,ce,ee,hE⟩ := Ents.ofAnyV ho (fun q hq => hZ q (by omega)) (fun y hy => (hxw y hy).keep hbr.size fun q hq _ => hbr.block q hq)
        injection ee with e1 e2 e3
        subst e1 e3
        clear hcell hxok
        rcases qhG hE with hnil | ⟨q,g3,off3,m,rfl,hlast,hm1,z0,z1⟩
        · subst hnil
          have hyl : ([] : List Lay).length + 1 = 0 + 1 := rfl
          rw [List.map_nil] at hput
          have HFIN := Lib.hid (show putE l x.e = some ((([] : List Lay).map (·.e)) ++ [x.e]) from hput)
          have hyb : 0 + 1 <= 1000000 := by omega
          have hd0 : decide (((0 : Nat) : Int) > 0) = false := rfl
          have hd01 : decide ((0 : Int) > 0) = false := rfl
          clear hput hE hsl
          change wr.ownsRow (w.heap.size + 1) 69 3 (.slice A' 0 c') 0 (rowOf []) at ho
          change ∀ q',(Value.slice A' 0 c').ownBlock = some q' -> w.heap.size + 1 <= q' at hdg
          obtain ⟨ys,hys⟩ : ∃ ys : List Lay,ys = [] := ⟨_,rfl⟩
          rw [<- hys] at ho hxw HFIN hyl
          clear hys
          go_wp2
          go_quiet (fail)
          have hbq : Below w.heap.size w (wr.drewN nq) := below_drewN hbr nq
          have hoq := qaa ho (w' := wr.drewN nq) (fun _ _ => rfl)
          replace b0 : (wr.drewN nq).cell? ⟨w.heap.size,0,none⟩ = some (.int .i64 x.e.i) := b0
          replace b1 : (wr.drewN nq).cell? ⟨w.heap.size,1,none⟩ = some (.int .i64 x.e.t) := b1
          replace b2 : (wr.drewN nq).cell? ⟨w.heap.size,2,none⟩ = some (.slice x.A x.e.d.length x.c) := b2
          clear hrr ho
          replace hb1 : w.heap.size + 1 <= (wr.drewN nq).heap.size := hb1
          have hone := qa1 (wr.drewN nq) x 69
          generalize wr.drewN nq = wq at *
          have hA2 := (Below.refl wq.heap.size wq).alloc nlq (.cells #[.int .i64 x.e.i, .int .i64 x.e.t, .slice x.A x.e.d.length x.c] 69)
          have hbr2 := hbq.trans (hA2.mono hbq.size)
          have ho2 := hoq.alloc (.cells #[.int .i64 x.e.i, .int .i64 x.e.t, .slice x.A x.e.d.length x.c] 69)
          generalize hxd : x.e.d.length = xd at *
          go_wp2_with (at_builtin; refine qad _ rfl _ _ rfl (w.heap.size + 1) (by rw [World.size_alloc]; omega) (.slice A' 0 c') 0 (rowOf ys) rfl ho2 ⟨wq.heap.size,0,none⟩ 1 1 [x] rfl (by simp) hone hyb ?_)
          intro v3 w3 ho3 hg3 hb3
          have hbr3 := hbr2.grown hg3 hbr2.size (fun q' e => Nat.le_of_lt (hdg q' e))
          obtain ⟨A3,c3,rfl,hE3,hL3⟩ := qdA hxw HO.out hbr3 (fun q hq => hZ q (by omega)) hyl ho3
          have HE := Lib.hid hE3
          have HLN := Lib.hid hL3
          have HB := Lib.hid hbr3
          clear hb3 hg3 ho3 hbr3 hE3 hL3 ho2 hbr2 hA2 hone hoq hbq
          go_wp2
          refine bodyPost_ret (results_tmp2 rfl _ _ _) rfl ?_
          unfold PutR
          rw [HFIN.out]
          exact ⟨HB.out,A3,c3,by rw [HLN.out]; rfl,by rw [HLN.out]; exact HE.out⟩
        · obtain ⟨yl,hyl0⟩ : ∃ yl,yl = m + 1 := ⟨_,rfl⟩
          have hyl : ys.length + 1 = yl + 1 := by omega
          rw [hm1,<- hyl0] at ho hdg
          rw [hm1,<- hyl0]
          rw [hlast] at hput
          dsimp only at hput
          have hyb : yl + 1 <= 1000000 := by omega
          have hd0 : decide ((yl : Int) > 0) = true := by simp; omega
          have hd01 : (0 : Int) < (yl : Int) := by omega
          have hd02 : 0 < yl := by omega
          have hd03 : decide (0 < yl) = true := decide_eq_true hd02
          have hw1 : wrap64 ((yl : Int) - 1) = (m : Int) := by rw [IntWalk.wrap64_in _ (by omega)]; omega
          have hw2 : IntKind.i64.wrap ((yl : Int) - 1) = (m : Int) := by rw [IntWalk.i64_in _ (by omega)]; omega
          have hmy : (m : Int) < (yl : Int) := by omega
          clear hm1 hlast hE hsl
          generalize q.i = qi at *
          generalize q.t = qt at *
          by_cases hc1 : qi = x.e.i - 1
          · have hc1b : (qi != x.e.i - 1) = false := by simp [hc1]
            by_cases hc2 : qt <= x.e.t
            · have hc2b : decide (qt > x.e.t) = false := by simp; omega
              have hc2c : (x.e.t < qt) = False := eq_false (by omega)
              rw [if_pos ⟨hc1,hc2⟩] at hput
              have HFIN := Lib.hid hput
              clear hput hc1 hc2 hyl0
              go_wp2
              go_quiet (fail)
              have hbq : Below w.heap.size w (wr.drewN nq) := below_drewN hbr nq
              have hoq := qaa ho (w' := wr.drewN nq) (fun _ _ => rfl)
              replace b0 : (wr.drewN nq).cell? ⟨w.heap.size,0,none⟩ = some (.int .i64 x.e.i) := b0
              replace b1 : (wr.drewN nq).cell? ⟨w.heap.size,1,none⟩ = some (.int .i64 x.e.t) := b1
              replace b2 : (wr.drewN nq).cell? ⟨w.heap.size,2,none⟩ = some (.slice x.A x.e.d.length x.c) := b2
              clear hrr ho z0 z1
              replace hb1 : w.heap.size + 1 <= (wr.drewN nq).heap.size := hb1
              have hone := qa1 (wr.drewN nq) x 69
              generalize wr.drewN nq = wq at *
              have hA2 := (Below.refl wq.heap.size wq).alloc nlq (.cells #[.int .i64 x.e.i, .int .i64 x.e.t, .slice x.A x.e.d.length x.c] 69)
              have hbr2 := hbq.trans (hA2.mono hbq.size)
              have ho2 := hoq.alloc (.cells #[.int .i64 x.e.i, .int .i64 x.e.t, .slice x.A x.e.d.length x.c] 69)
              generalize hxd : x.e.d.length = xd at *
              go_wp2_with (at_builtin; refine qad _ rfl _ _ rfl (w.heap.size + 1) (by rw [World.size_alloc]; omega) (.slice (some ⟨g3,off3,none⟩) yl c') yl (rowOf ys) rfl ho2 ⟨wq.heap.size,0,none⟩ 1 1 [x] rfl (by simp) hone hyb ?_)
              intro v3 w3 ho3 hg3 hb3
              have hbr3 := hbr2.grown hg3 hbr2.size (fun q' e => Nat.le_of_lt (hdg q' e))
              obtain ⟨A3,c3,rfl,hE3,hL3⟩ := qdA hxw HO.out hbr3 (fun q hq => hZ q (by omega)) hyl ho3
              have HE := Lib.hid hE3
              have HLN := Lib.hid hL3
              have HB := Lib.hid hbr3
              clear hb3 hg3 ho3 hbr3 hE3 hL3 ho2 hbr2 hA2 hone hoq hbq
              go_wp2
              refine bodyPost_ret (results_tmp2 rfl _ _ _) rfl ?_
              unfold PutR
              rw [HFIN.out]
              exact ⟨HB.out,A3,c3,by rw [HLN.out]; rfl,by rw [HLN.out]; exact HE.out⟩
            · have hc2b : decide (qt > x.e.t) = true := by simp; omega
              have hc2c : x.e.t < qt := by omega
              rw [if_neg fun h => hc2 h.2] at hput
              have HFIN := Lib.hid hput
              have HB := Lib.hid hbr
              clear hput hc1 hc2 hyl0 ho hbr
              go_wp2
              go_quiet (fail)
              go_wp2
              refine bodyPost_ret (results_tmp2 rfl _ _ _) rfl ?_
              unfold PutR
              rw [HFIN.out]
              exact ⟨below_drewN HB.out nq,rfl⟩
          · have hc1b : (qi != x.e.i - 1) = true := by simp [hc1]
            rw [if_neg fun h => hc1 h.1] at hput
            have HFIN := Lib.hid hput
            have HB := Lib.hid hbr
            clear hput hyl0 ho hbr
            go_wp2
            go_quiet (fail)
            go_wp2
            refine bodyPost_ret (results_tmp2 rfl _ _ _) rfl ?_
            unfold PutR
            rw [HFIN.out]
            exact ⟨below_drewN HB.out nq,rfl⟩
end Go.Proofs.YtmeoooojmhhahaaGreat
namespace Go.Proofs.YtmeoooojmhhahaaGreat
open Go.RowKit
abbrev strs (ts : List ByteArray) : List Value := ts.map fun p => .string p
theorem qlt (ts : List ByteArray) : ∀ u ∈ strs ts,u.oneCell' = true := by
 intro u hu
 obtain ⟨p,_,rfl⟩ := List.mem_map.1 hu
 rfl
theorem qac (w : World) {ops : Array Oper} {o : Oper} {a : Act} {K : Act -> World -> Prop} {Q : Exit -> Act -> World -> Prop} {E : Prop} (hgd : o.guard = none) (sl x : Operand)
 (ho : o.op = .call { callee := .builtin .append,args := #[sl,x],argTypes := #[109,109] })
 (base : Nat) (hbase : base <= w.heap.size) (v : Value) (n : Nat) (row : List Value) (hs : a.eval sl = v) (hown : w.ownsRow base 9 1 v n row) (A : Option Addr) (len cap : Nat) (ts : List ByteArray) (hx : a.eval x = .slice A len cap) (hl : ts.length = len)
 (hnone : A = none -> cap = 0 /\ len = 0) (hcell : ∀ b,A = some b -> ∀ j u,(strs ts)[j]? = some u -> w.cell? (b.add j) = some u) (hf : n + len <= 1000000)
 (h : ∀ v' w',w'.ownsRow base 9 1 v' (n + len) (row ++ strs ts) -> w.grownBy w' v.ownBlock -> (v'.ownBlock = v.ownBlock \/ v'.ownBlock = some w.heap.size) -> K (a.put o.dst v') w') :
 if Region.wanted o (yielded ops a.tmps) = true then Oper.wp Tryz.prog o a w K Q else E := by
 have hw : Region.wanted o (yielded ops a.tmps) = true := by simp [Region.wanted,hgd]
 rw [if_pos hw]
 obtain ⟨i0,hi0,hz0,hz1,hz2⟩ := info_parts qdg
 cases A with
 | some b =>
   obtain ⟨v',w',hr,h2,h3,_,h4⟩ := run_append_own_at (P := Tryz.prog) w base 109 o.type 9 i0 _ 1 16 Tryz.underlying109 hi0 hz0 hz1 hz2 rfl (by omega) v n row hown b len cap (strs ts) (by rw [List.length_map,hl,Nat.mul_one]) (hcell b rfl) (qlt ts) (by unfold maxLen; omega) (by omega) hbase
   unfold Oper.wp execOp
   simp only [ho,resolve,invoke,builtin,Sem.run_bind,Sem.run_pure,Result.andThen_ok,List.map_toArray,List.map_cons,List.map_nil,hs,hx,hr]
   exact h v' w' h2 h3 h4
 | none =>
   obtain ⟨rfl,rfl⟩ := hnone rfl
   obtain rfl : ts = [] := List.eq_nil_of_length_eq_zero hl
   have hr := run_append_owned_none (P := Tryz.prog) (w := w) base 109 o.type 9 i0 1 Tryz.underlying109 hi0 v _ _ hown
   unfold Oper.wp execOp
   simp only [ho,resolve,invoke,builtin,Sem.run_bind,Sem.run_pure,Result.andThen_ok,List.map_toArray,List.map_cons,List.map_nil,hs,hx,hr]
   exact h v w (by simpa using hown) (World.grownBy.refl _ _) (.inl rfl)
theorem qbh.cells {w W : World} {l : List Ent} {k : Nat} {A : Option Addr} {c : Nat} (hk : k = l.length) (h : qbh w W l k (.slice A k c)) :
 (A = none -> c = 0 /\ k = 0) /\ (∀ b,A = some b -> ∀ j u,(strs (l.map qB))[j]? = some u -> W.cell? (b.add j) = some u) := by
 have ho := h.1
 rw [List.take_of_length_le (by omega)] at ho
 rcases ho.2 with ⟨e,h0⟩ | ⟨g,cap,cur,e,hb,hg,h1,h2,h3,h4⟩
 · injection e with e1 e2 e3
   subst e1 e2 e3
   exact ⟨fun _ => ⟨rfl,rfl⟩,fun b e => by cases e⟩
 · injection e with e1 e2 e3
   subst e1 e3
   refine ⟨(fun e => by cases e),fun b e j u hu => ?_⟩
   injection e with e
   subst e
   have hj : j < k := by
    have := (List.getElem?_eq_some_iff.1 hu).1
    simp at this
    omega
   rw [Addr.add_lit,Nat.zero_add,World.ownsRow.cellAt ho j (by omega)]
   exact hu
theorem qbV {w : World} {base : Nat} {v : Value} {n : Nat} {ts : List ByteArray} (hn : n = ts.length) (h : w.ownsRow base 9 1 v n (strs ts)) : ∃ E cap,v = .slice E n cap /\ Strs w E n cap ts := by
 subst hn
 obtain ⟨E,cap,e,hs,_⟩ := qc8 h
 exact ⟨E,cap,e,hs⟩
end Go.Proofs.YtmeoooojmhhahaaGreat
