/- The document's Open of a vault: its frames. (Written by mkrefp.py.) -/
import Derived.Test.YtmeoooojmhhahaaGreatTVauRefM
set_option linter.unusedVariables false
set_option linter.unusedSimpArgs false
set_option maxRecDepth 100000
set_option maxHeartbeats 200000
namespace Go.Proofs.YtmeoooojmhhahaaGreat
open Go.RowKit
section
variable {P : Program} {fn : Func} {p q u : Tmp} {T T2 : TypeId} {W : World} {n m : Nat} {cs ds : Array Value} {fr gr : Nat × Nat} {d d2 : TypeDesc} {tmps : Array Value}
theorem qc9 (h : fn.results = #[.cell p T, .cell q T2, .tmp u]) (tmps : Array Value) (P : Program) (w : World) :
 (results fn tmps).run P w =
   ((asAddr (tmps.getD p undef)).run P w).andThen fun a w₁ => ((loadVar T a).run P w₁).andThen fun v w₂ => ((asAddr (tmps.getD q undef)).run P w₂).andThen fun b w₃ => ((loadVar T2 b).run P w₃).andThen fun x w₄ => .ok (.tuple #[v,x,tmps.getD u undef]) w₄ := by
 simp only [results,h]
 simp [Sem.run_bind,Result.andThen]
theorem qX (h : fn.results = #[.cell p T, .cell q T2, .tmp u]) (h1 : tmps.getD p undef = .pointer (some ⟨n,0,none⟩)) (hW : W.heap[n]? = some (.cells cs T fr)) (h2 : tmps.getD q undef = .pointer (some ⟨m,0,none⟩)) (hV : W.heap[m]? = some (.cells ds T2 gr)) (hu : P.underlying T = some d) (hv : P.underlying T2 = some d2)
 (hd : (match d with | .struct _ | .array _ _ => true | _ => false) = true) (he : (match d2 with | .struct _ | .array _ _ => true | _ => false) = true) (hi : (P.info? T).map (·.size) = some cs.size) (hj : (P.info? T2).map (·.size) = some ds.size) : (results fn tmps).run P W = .ok (.tuple #[.agg cs, .agg ds,tmps.getD u undef]) W := by
 rw [qc9 h,h1,h2]
 simp [asAddr,run_loadVar_row W n T T cs fr d hW hu hd hi,run_loadVar_row W m T2 T2 ds gr d2 hV hv he hj]
end
abbrev qbQ : Array Value := #[.int .i64 0, .int .i64 0, .int .i64 0, .int .i64 0, .slice none 0 0, .slice none 0 0]
abbrev qcX (A : Option Addr) (cap : Nat) (D : Dsk) : Array Value := #[.int .i64 D.room, .slice A D.l.length cap, .bool D.set, .int .i64 D.n, .bool D.lost, .string ⟨#[]⟩, .int .i64 0, .int .i64 0, .int .i64 0]
structure NAt (w W : World) (B : Nat) (A : Option Addr) (cap : Nat) (l : List Fil) (A' : Option Addr) (cap' : Nat) (D' : Dsk) : Prop where
 mv : W.heap[w.heap.size + 1]? = some (.cells zeroV 45)
 mh : W.heap[w.heap.size + 1 + 1]? = some (.cells qbQ 47)
 mn : W.heap[w.heap.size + 1 + 1 + 1]? = some (.cells (qcX A' cap' D') 45)
 got : GotB w B A cap l W A' cap' D'.l
 lo : w.heap.size + 4 <= B
 hi : B <= W.heap.size
section
variable {w W w2 : World} {B : Nat} {A A1 A2 : Option Addr} {cap cap1 cap2 : Nat} {l : List Fil} {D1 D2 : Dsk}
theorem NAt.below (v : NAt w W B A cap l A1 cap1 D1) (hb : Below W.heap.size W w2) : NAt w w2 B A cap l A1 cap1 D1 := by
 have e1 := v.lo
 have e2 := v.hi
 exact ⟨(hb.block _ (by omega)).trans v.mv,(hb.block _ (by omega)).trans v.mh,(hb.block _ (by omega)).trans v.mn,v.got.keep (hb.mono v.got.1.size) (fun g _ hg => hb.block g hg),e1,Nat.le_trans e2 hb.size⟩
theorem NAt.disk (v : NAt w W B A cap l A1 cap1 D1) (hg : Got W A1 cap1 D1.l w2 A2 cap2 D2.l) : NAt w (((((w2.setCell ⟨w.heap.size + 1 + 1 + 1,0,none⟩ (.int .i64 D2.room)).setCell ⟨w.heap.size + 1 + 1 + 1,1,none⟩ (.slice A2 D2.l.length cap2)).setCell ⟨w.heap.size + 1 + 1 + 1,2,none⟩ (.bool D2.set)).setCell ⟨w.heap.size + 1 + 1 + 1,3,none⟩ (.int .i64 D2.n)).setCell ⟨w.heap.size + 1 + 1 + 1,4,none⟩ (.bool D2.lost)) B A cap l A2 cap2 D2 := by
 have e1 := v.lo
 have e2 := v.hi
 have e3 := hg.1.size
 have m := (hg.1.block _ (by omega)).trans v.mn
 refine ⟨(qf _ (by omega) _ _ _ _ _).trans ((hg.1.block _ (by omega)).trans v.mv),(qf _ (by omega) _ _ _ _ _).trans ((hg.1.block _ (by omega)).trans v.mh),?_,(v.got.next hg e2).set5 (by omega) (by omega) _ _ _ _ _,e1,by simp [World.setCell]; omega⟩
 simp only [World.setCell,Array.getElem?_modify,if_true,m,Option.map_some]
 simp
theorem qlV (X : World) (n : Nat) (a b c d e f a0 b0 c0 d0 e0 f0 : Value) (T : TypeId) (h : X.heap[n]? = some (.cells #[a0,b0,c0,d0,e0,f0] T)) :
 ((((((X.setCell ⟨n,0,none⟩ a).setCell ⟨n,1,none⟩ b).setCell ⟨n,2,none⟩ c).setCell ⟨n,3,none⟩ d).setCell ⟨n,4,none⟩ e).setCell ⟨n,5,none⟩ f).heap[n]? = some (.cells #[a,b,c,d,e,f] T) := by
 simp only [World.setCell,Array.getElem?_modify,if_true,h,Option.map_some]
 simp
theorem qhK (w1 : World) {n k : Nat} (hk : k ≠ n) (a b c d e f : Value) : ((((((w1.setCell ⟨n,0,none⟩ a).setCell ⟨n,1,none⟩ b).setCell ⟨n,2,none⟩ c).setCell ⟨n,3,none⟩ d).setCell ⟨n,4,none⟩ e).setCell ⟨n,5,none⟩ f).heap[k]? = w1.heap[k]? := by
 repeat (refine (Below.heap_setCell _ _ _ _ (by show k ≠ n; exact hk)).trans ?_)
 rfl
theorem qgu (w1 : World) {n k : Nat} (hk : k ≠ n) (a b c d e f g i j : Value) :
 (((((((((w1.setCell ⟨n,0,none⟩ a).setCell ⟨n,1,none⟩ b).setCell ⟨n,2,none⟩ c).setCell ⟨n,3,none⟩ d).setCell ⟨n,4,none⟩ e).setCell ⟨n,5,none⟩ f).setCell ⟨n,6,none⟩ g).setCell ⟨n,7,none⟩ i).setCell ⟨n,8,none⟩ j).heap[k]? = w1.heap[k]? := by
 repeat (refine (Below.heap_setCell _ _ _ _ (by show k ≠ n; exact hk)).trans ?_)
 rfl
theorem NAt.answer (v : NAt w W B A cap l A1 cap1 D1) (a b c d e f g i j u0 u1 u2 u3 u4 u5 : Value) :
 (((((((((((((((W.setCell ⟨w.heap.size + 1,0,none⟩ a).setCell ⟨w.heap.size + 1,1,none⟩ b).setCell ⟨w.heap.size + 1,2,none⟩ c).setCell ⟨w.heap.size + 1,3,none⟩ d).setCell ⟨w.heap.size + 1,4,none⟩ e).setCell ⟨w.heap.size + 1,5,none⟩ f).setCell ⟨w.heap.size + 1,6,none⟩ g).setCell ⟨w.heap.size + 1,7,none⟩ i).setCell ⟨w.heap.size + 1,8,none⟩ j).setCell ⟨w.heap.size + 1 + 1,0,none⟩ u0).setCell ⟨w.heap.size + 1 + 1,1,none⟩ u1).setCell ⟨w.heap.size + 1 + 1,2,none⟩ u2).setCell ⟨w.heap.size + 1 + 1,3,none⟩ u3).setCell ⟨w.heap.size + 1 + 1,4,none⟩ u4).setCell ⟨w.heap.size + 1 + 1,5,none⟩ u5).heap[w.heap.size + 1]? = some (.cells #[a,b,c,d,e,f,g,i,j] 45) /\ (((((((((((((((W.setCell ⟨w.heap.size + 1,0,none⟩ a).setCell ⟨w.heap.size + 1,1,none⟩ b).setCell ⟨w.heap.size + 1,2,none⟩ c).setCell ⟨w.heap.size + 1,3,none⟩ d).setCell ⟨w.heap.size + 1,4,none⟩ e).setCell ⟨w.heap.size + 1,5,none⟩ f).setCell ⟨w.heap.size + 1,6,none⟩ g).setCell ⟨w.heap.size + 1,7,none⟩ i).setCell ⟨w.heap.size + 1,8,none⟩ j).setCell ⟨w.heap.size + 1 + 1,0,none⟩ u0).setCell ⟨w.heap.size + 1 + 1,1,none⟩ u1).setCell ⟨w.heap.size + 1 + 1,2,none⟩ u2).setCell ⟨w.heap.size + 1 + 1,3,none⟩ u3).setCell ⟨w.heap.size + 1 + 1,4,none⟩ u4).setCell ⟨w.heap.size + 1 + 1,5,none⟩ u5).heap[w.heap.size + 1 + 1]? = some (.cells #[u0,u1,u2,u3,u4,u5] 47) /\ Got w A cap l (((((((((((((((W.setCell ⟨w.heap.size + 1,0,none⟩ a).setCell ⟨w.heap.size + 1,1,none⟩ b).setCell ⟨w.heap.size + 1,2,none⟩ c).setCell ⟨w.heap.size + 1,3,none⟩ d).setCell ⟨w.heap.size + 1,4,none⟩ e).setCell ⟨w.heap.size + 1,5,none⟩ f).setCell ⟨w.heap.size + 1,6,none⟩ g).setCell ⟨w.heap.size + 1,7,none⟩ i).setCell ⟨w.heap.size + 1,8,none⟩ j).setCell ⟨w.heap.size + 1 + 1,0,none⟩ u0).setCell ⟨w.heap.size + 1 + 1,1,none⟩ u1).setCell ⟨w.heap.size + 1 + 1,2,none⟩ u2).setCell ⟨w.heap.size + 1 + 1,3,none⟩ u3).setCell ⟨w.heap.size + 1 + 1,4,none⟩ u4).setCell ⟨w.heap.size + 1 + 1,5,none⟩ u5) A1 cap1 D1.l ∧
 (∀ k,k ≠ w.heap.size + 1 -> k ≠ w.heap.size + 1 + 1 -> (((((((((((((((W.setCell ⟨w.heap.size + 1,0,none⟩ a).setCell ⟨w.heap.size + 1,1,none⟩ b).setCell ⟨w.heap.size + 1,2,none⟩ c).setCell ⟨w.heap.size + 1,3,none⟩ d).setCell ⟨w.heap.size + 1,4,none⟩ e).setCell ⟨w.heap.size + 1,5,none⟩ f).setCell ⟨w.heap.size + 1,6,none⟩ g).setCell ⟨w.heap.size + 1,7,none⟩ i).setCell ⟨w.heap.size + 1,8,none⟩ j).setCell ⟨w.heap.size + 1 + 1,0,none⟩ u0).setCell ⟨w.heap.size + 1 + 1,1,none⟩ u1).setCell ⟨w.heap.size + 1 + 1,2,none⟩ u2).setCell ⟨w.heap.size + 1 + 1,3,none⟩ u3).setCell ⟨w.heap.size + 1 + 1,4,none⟩ u4).setCell ⟨w.heap.size + 1 + 1,5,none⟩ u5).heap[k]? = W.heap[k]?) /\ (((((((((((((((W.setCell ⟨w.heap.size + 1,0,none⟩ a).setCell ⟨w.heap.size + 1,1,none⟩ b).setCell ⟨w.heap.size + 1,2,none⟩ c).setCell ⟨w.heap.size + 1,3,none⟩ d).setCell ⟨w.heap.size + 1,4,none⟩ e).setCell ⟨w.heap.size + 1,5,none⟩ f).setCell ⟨w.heap.size + 1,6,none⟩ g).setCell ⟨w.heap.size + 1,7,none⟩ i).setCell ⟨w.heap.size + 1,8,none⟩ j).setCell ⟨w.heap.size + 1 + 1,0,none⟩ u0).setCell ⟨w.heap.size + 1 + 1,1,none⟩ u1).setCell ⟨w.heap.size + 1 + 1,2,none⟩ u2).setCell ⟨w.heap.size + 1 + 1,3,none⟩ u3).setCell ⟨w.heap.size + 1 + 1,4,none⟩ u4).setCell ⟨w.heap.size + 1 + 1,5,none⟩ u5).heap.size = W.heap.size := by
 have e1 := v.lo
 have e2 := v.hi
 refine ⟨(qhK _ (by omega) _ _ _ _ _ _).trans (qeg _ _ _ _ _ _ _ _ _ _ _ _ _ _ _ _ _ _ _ _ _ v.mv),qlV _ _ _ _ _ _ _ _ _ _ _ _ _ _ _ ((qgu _ (by omega) _ _ _ _ _ _ _ _ _).trans v.mh),?_,fun k h1 h2 => (qhK _ h2 _ _ _ _ _ _).trans (qgu _ h1 _ _ _ _ _ _ _ _ _),by simp [World.setCell]⟩
 have g9 := ((v.got.set7 (p := w.heap.size + 1) (by omega) (by omega) a b c d e f g).set1 (p := w.heap.size + 1) (by omega) (by omega) 7 i).set1 (p := w.heap.size + 1) (by omega) (by omega) 8 j
 exact (((g9.set5 (p := w.heap.size + 1 + 1) (by omega) (by omega) u0 u1 u2 u3 u4).set1 (p := w.heap.size + 1 + 1) (by omega) (by omega) 5 u5).got (by omega))
end
theorem RF.far {w w' : World} {A : Option Addr} {cap : Nat} {l : List Fil} {p : Nat} (h : RF w A cap l) (hs : w.heap.size <= w'.heap.size) (hk : ∀ g,g ≠ p -> g < w.heap.size -> w'.heap[g]? = w.heap[g]?) (hp : 0 < l.length -> ∀ a,A = some a -> a.block ≠ p) : RF w' A cap l := by
 refine ⟨h.1,fun h0 => ?_⟩
 obtain ⟨g,off,e,hg,hc⟩ := h.2 h0
 have hx : ∀ o,w'.cell? ⟨g,o,none⟩ = w.cell? ⟨g,o,none⟩ := fun o => World.cell?_of_block (hk g (hp h0 _ e) hg)
 exact ⟨g,off,e,Nat.lt_of_lt_of_le hg hs,fun j hj => ⟨(hx _).trans (hc j hj).1,(hx _).trans (hc j hj).2.1,(hx _).trans (hc j hj).2.2⟩⟩
theorem GotB.far {w w1 w2 : World} {B : Nat} {A A1 : Option Addr} {cap cap1 : Nat} {l l1 : List Fil} {p : Nat} (h : GotB w B A cap l w1 A1 cap1 l1) (hb : Below w.heap.size w1 w2) (hk : ∀ g,g ≠ p -> g < w1.heap.size -> w2.heap[g]? = w1.heap[g]?) (hp : 0 < l1.length -> ∀ a,A1 = some a -> a.block ≠ p) : GotB w B A cap l w2 A1 cap1 l1 :=
 ⟨h.1.trans hb,h.2.imp id fun ⟨h1,h2⟩ => ⟨h1.far hb.size hk hp,h2⟩⟩
def qdC (w w' : World) (A : Option Addr) (cap : Nat) (D : Dsk) (en : Ending) : Prop :=
 ∃ A' cap' nm' n' h' Bs bn bc E len ecap,en = .returned (.tuple #[.agg #[.int .i64 D.openV.1.1.room, .slice A' D.openV.1.1.l.length cap', .bool D.openV.1.1.set, .int .i64 D.openV.1.1.n, .bool D.openV.1.1.lost, .string nm', .int .i64 n', .int .i64 (Hd.t h'), .int .i64 (Hd.v h')],
  .agg #[.int .i64 D.openV.2.h.t, .int .i64 D.openV.2.h.v, .int .i64 D.openV.2.s.i, .int .i64 D.openV.2.s.t, .slice Bs bn bc, .slice E len ecap], .int .i64 ((D.openV.1.2 : Nat) : Int)]) ∧
  Got w A cap D.l w' A' cap' D.openV.1.1.l /\ Lies w' Bs bn bc D.openV.2.s.d /\ Ents w' (w.heap.size <= ·) E len ecap D.openV.2.l /\ (D.openV.1.2 = 0 -> nm' = nWal /\ h' = D.openV.2.h /\ 0 <= n' /\ n' <= 100000)
theorem qbR {w w' : World} {A A' : Option Addr} {cap cap' : Nat} {D D' : Dsk} {e : Nat} (he : e ≠ 0) (h : D.openV = ((D',e),qN)) (hg : Got w A cap D.l w' A' cap' D'.l) :
 qdC w w' A cap D (.returned (.tuple #[.agg (qcX A' cap' D'), .agg qbQ, .int .i64 ((e : Nat) : Int)])) := by
 unfold qdC
 rw [h]
 exact ⟨A',cap',⟨#[]⟩,0,⟨0,0⟩,none,0,0,none,0,0,rfl,hg,Lies.nil _,⟨rfl,nlq,fun _ => rfl,fun h => absurd h (by omega)⟩,fun h0 => absurd h0 he⟩
end Go.Proofs.YtmeoooojmhhahaaGreat
