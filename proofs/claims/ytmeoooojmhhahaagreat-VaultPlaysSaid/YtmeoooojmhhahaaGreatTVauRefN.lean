/- The document's Keep, by its contract. (Written by mkrefn.py.) -/
import Derived.Test.YtmeoooojmhhahaaGreatTVauRefM
set_option linter.unusedVariables false
set_option linter.unusedSimpArgs false
set_option maxRecDepth 100000
set_option maxHeartbeats 200000
namespace Go.Proofs.YtmeoooojmhhahaaGreat
open Go.RowKit
theorem qjr {D : Dsk} (h : Good D) (nm : ByteArray) (ls : List (List UInt8)) : Good (D.added nm ls).1 := by
 unfold Dsk.added
 split
 · exact h
 · exact h.wrote _ _
theorem qjs {D : Dsk} (h : Good D) (was hd : Hd) (l : List Ent) : Good (D.saveV was hd l).1.1 := by
 unfold Dsk.saveV
 split
 · exact qjr h _ _
 · exact h
structure KAt (w W : World) (B : Nat) (A : Option Addr) (cap : Nat) (l : List Fil) (A' : Option Addr) (cap' : Nat) (D' : Dsk) (n' : Int) (h h' : Hd) (s : Ent) (Bs : Option Addr) (bc : Nat) : Prop where
 m0 : W.heap[w.heap.size]? = some (.cells (vauC A' cap' D' n' h') 45)
 mh : W.heap[w.heap.size + 1]? = some (.cells #[.int .i64 h.t, .int .i64 h.v] 32)
 ms : W.heap[w.heap.size + 1 + 1]? = some (.cells #[.int .i64 s.i, .int .i64 s.t, .slice Bs s.d.length bc] 35)
 mr : W.heap[w.heap.size + 1 + 1 + 1]? = some (.cells zeroV 45)
 got : GotB w B A cap l W A' cap' D'.l
 lo : w.heap.size + 4 <= B
 hi : B <= W.heap.size
section
variable {w W w2 : World} {B : Nat} {A A1 A2 : Option Addr} {cap cap1 cap2 : Nat} {l : List Fil} {D1 D2 : Dsk} {n1 : Int} {h h1 : Hd} {s : Ent} {Bs : Option Addr} {bc : Nat}
theorem KAt.below (v : KAt w W B A cap l A1 cap1 D1 n1 h h1 s Bs bc) (hb : Below W.heap.size W w2) : KAt w w2 B A cap l A1 cap1 D1 n1 h h1 s Bs bc := by
 have e1 := v.lo
 have e2 := v.hi
 exact ⟨(hb.block _ (by omega)).trans v.m0,(hb.block _ (by omega)).trans v.mh,(hb.block _ (by omega)).trans v.ms,(hb.block _ (by omega)).trans v.mr,v.got.keep (hb.mono v.got.1.size) (fun g _ hg => hb.block g hg),e1,Nat.le_trans e2 hb.size⟩
theorem qe0 (w1 : World) {n k : Nat} (hk : k ≠ n) (a b c d e f g i j : Value) :
 (((((((((w1.setCell ⟨n,0,none⟩ a).setCell ⟨n,1,none⟩ b).setCell ⟨n,2,none⟩ c).setCell ⟨n,3,none⟩ d).setCell ⟨n,4,none⟩ e).setCell ⟨n,5,none⟩ f).setCell ⟨n,6,none⟩ g).setCell ⟨n,7,none⟩ i).setCell ⟨n,8,none⟩ j).heap[k]? = w1.heap[k]? := by
 repeat (refine (Below.heap_setCell _ _ _ _ (by show k ≠ n; exact hk)).trans ?_)
 rfl
theorem KAt.whole (v : KAt w W B A cap l A1 cap1 D1 n1 h h1 s Bs bc) (hg : Got W A1 cap1 D1.l w2 A2 cap2 D2.l) (n2 : Int) (h2 : Hd) :
 KAt w (((((((((w2.setCell ⟨w.heap.size,0,none⟩ (.int .i64 D2.room)).setCell ⟨w.heap.size,1,none⟩ (.slice A2 D2.l.length cap2)).setCell ⟨w.heap.size,2,none⟩ (.bool D2.set)).setCell ⟨w.heap.size,3,none⟩ (.int .i64 D2.n)).setCell ⟨w.heap.size,4,none⟩ (.bool D2.lost)).setCell ⟨w.heap.size,5,none⟩ (.string nWal)).setCell ⟨w.heap.size,6,none⟩ (.int .i64 n2)).setCell ⟨w.heap.size,7,none⟩ (.int .i64 h2.t)).setCell ⟨w.heap.size,8,none⟩ (.int .i64 h2.v)) B A cap l A2 cap2 D2 n2 h h2 s Bs bc := by
 have e1 := v.lo
 have e2 := v.hi
 have e3 := hg.1.size
 exact ⟨qeg _ _ _ _ _ _ _ _ _ _ _ _ _ _ _ _ _ _ _ _ _ ((hg.1.block _ (by omega)).trans v.m0),(qe0 _ (by omega) _ _ _ _ _ _ _ _ _).trans ((hg.1.block _ (by omega)).trans v.mh),(qe0 _ (by omega) _ _ _ _ _ _ _ _ _).trans ((hg.1.block _ (by omega)).trans v.ms),(qe0 _ (by omega) _ _ _ _ _ _ _ _ _).trans ((hg.1.block _ (by omega)).trans v.mr),(((v.got.next hg e2).set7 nlq (by omega) _ _ _ _ _ _ _).set1 nlq (by omega) _ _).set1 nlq (by omega) _ _,e1,by simp [World.setCell]; omega⟩
theorem KAt.log (v : KAt w W B A cap l A1 cap1 D1 n1 h h1 s Bs bc) (hg : Got W A1 cap1 D1.l w2 A2 cap2 D2.l) (n2 : Int) :
 KAt w (((((((w2.setCell ⟨w.heap.size,0,none⟩ (.int .i64 D2.room)).setCell ⟨w.heap.size,1,none⟩ (.slice A2 D2.l.length cap2)).setCell ⟨w.heap.size,2,none⟩ (.bool D2.set)).setCell ⟨w.heap.size,3,none⟩ (.int .i64 D2.n)).setCell ⟨w.heap.size,4,none⟩ (.bool D2.lost)).setCell ⟨w.heap.size,5,none⟩ (.string nWal)).setCell ⟨w.heap.size,6,none⟩ (.int .i64 n2)) B A cap l A2 cap2 D2 n2 h h1 s Bs bc := by
 have e1 := v.lo
 have e2 := v.hi
 have e3 := hg.1.size
 have m0 := (hg.1.block _ (by omega)).trans v.m0
 refine ⟨?_,(qap _ (by omega) _ _ _ _ _ _ _).trans ((hg.1.block _ (by omega)).trans v.mh),(qap _ (by omega) _ _ _ _ _ _ _).trans ((hg.1.block _ (by omega)).trans v.ms),(qap _ (by omega) _ _ _ _ _ _ _).trans ((hg.1.block _ (by omega)).trans v.mr),(v.got.next hg e2).set7 nlq (by omega) _ _ _ _ _ _ _,e1,by simp [World.setCell]; omega⟩
 simp only [World.setCell,Array.getElem?_modify,if_true,m0,Option.map_some]
 simp
theorem KAt.disk (v : KAt w w2 B A cap l A1 cap1 D1 n1 h h1 s Bs bc) (hg : Got w2 A1 cap1 D1.l W A2 cap2 D2.l) :
 KAt w (((((W.setCell ⟨w.heap.size,0,none⟩ (.int .i64 D2.room)).setCell ⟨w.heap.size,1,none⟩ (.slice A2 D2.l.length cap2)).setCell ⟨w.heap.size,2,none⟩ (.bool D2.set)).setCell ⟨w.heap.size,3,none⟩ (.int .i64 D2.n)).setCell ⟨w.heap.size,4,none⟩ (.bool D2.lost)) B A cap l A2 cap2 D2 n1 h h1 s Bs bc := by
 have e1 := v.lo
 have e2 := v.hi
 have e3 := hg.1.size
 have m0 := (hg.1.block _ (by omega)).trans v.m0
 refine ⟨?_,(qf _ (by omega) _ _ _ _ _).trans ((hg.1.block _ (by omega)).trans v.mh),(qf _ (by omega) _ _ _ _ _).trans ((hg.1.block _ (by omega)).trans v.ms),(qf _ (by omega) _ _ _ _ _).trans ((hg.1.block _ (by omega)).trans v.mr),(v.got.next hg e2).set5 nlq (by omega) _ _ _ _ _,e1,by simp [World.setCell]; omega⟩
 simp only [World.setCell,Array.getElem?_modify,if_true,m0,Option.map_some]
 simp
theorem KAt.answer (v : KAt w W B A cap l A1 cap1 D1 n1 h h1 s Bs bc) (a b c d e f g i j : Value) :
 (((((((((W.setCell ⟨w.heap.size + 1 + 1 + 1,0,none⟩ a).setCell ⟨w.heap.size + 1 + 1 + 1,1,none⟩ b).setCell ⟨w.heap.size + 1 + 1 + 1,2,none⟩ c).setCell ⟨w.heap.size + 1 + 1 + 1,3,none⟩ d).setCell ⟨w.heap.size + 1 + 1 + 1,4,none⟩ e).setCell ⟨w.heap.size + 1 + 1 + 1,5,none⟩ f).setCell ⟨w.heap.size + 1 + 1 + 1,6,none⟩ g).setCell ⟨w.heap.size + 1 + 1 + 1,7,none⟩ i).setCell ⟨w.heap.size + 1 + 1 + 1,8,none⟩ j).heap[w.heap.size + 1 + 1 + 1]? = some (.cells #[a,b,c,d,e,f,g,i,j] 45) /\ Got w A cap l (((((((((W.setCell ⟨w.heap.size + 1 + 1 + 1,0,none⟩ a).setCell ⟨w.heap.size + 1 + 1 + 1,1,none⟩ b).setCell ⟨w.heap.size + 1 + 1 + 1,2,none⟩ c).setCell ⟨w.heap.size + 1 + 1 + 1,3,none⟩ d).setCell ⟨w.heap.size + 1 + 1 + 1,4,none⟩ e).setCell ⟨w.heap.size + 1 + 1 + 1,5,none⟩ f).setCell ⟨w.heap.size + 1 + 1 + 1,6,none⟩ g).setCell ⟨w.heap.size + 1 + 1 + 1,7,none⟩ i).setCell ⟨w.heap.size + 1 + 1 + 1,8,none⟩ j) A1 cap1 D1.l := by
 have e1 := v.lo
 have e2 := v.hi
 exact ⟨qeg _ _ _ _ _ _ _ _ _ _ _ _ _ _ _ _ _ _ _ _ _ v.mr,(((v.got.set7 (by omega) (by omega) _ _ _ _ _ _ _).set1 (by omega) (by omega) _ _).set1 (by omega) (by omega) _ _).got (by omega)⟩
end
structure OneD (w0 W : World) (A : Option Addr) (cap : Nat) (l : List Fil) (A' : Option Addr) (cap' : Nat) (D' : Dsk) : Prop where
 m : W.heap[w0.heap.size]? = some (.cells (dskC A' cap' D') 41)
 got : GotB w0 (w0.heap.size + 1) A cap l W A' cap' D'.l
 hi : w0.heap.size + 1 <= W.heap.size
section
variable {w0 W w2 : World} {A A1 A2 : Option Addr} {cap cap1 cap2 : Nat} {l : List Fil} {D1 D2 : Dsk}
theorem OneD.new (w0 : World) (A : Option Addr) (cap : Nat) (D : Dsk) : OneD w0 (w0.alloc (.cells (dskC A cap D) 41)) A cap D.l A cap D :=
 ⟨heap_alloc_new _ _,⟨blq.alloc nlq _, .inl ⟨rfl,rfl,rfl⟩⟩,by simp⟩
theorem OneD.stored (v : OneD w0 W A cap l A1 cap1 D1) (hg : Got W A1 cap1 D1.l w2 A2 cap2 D2.l) : OneD w0 (((((w2.setCell ⟨w0.heap.size,0,none⟩ (.int .i64 D2.room)).setCell ⟨w0.heap.size,1,none⟩ (.slice A2 D2.l.length cap2)).setCell ⟨w0.heap.size,2,none⟩ (.bool D2.set)).setCell ⟨w0.heap.size,3,none⟩ (.int .i64 D2.n)).setCell ⟨w0.heap.size,4,none⟩ (.bool D2.lost)) A cap l A2 cap2 D2 := by
 have e2 := v.hi
 have e3 := hg.1.size
 exact ⟨qw _ _ _ _ _ _ _ _ _ _ _ _ _ ((hg.1.block _ (by omega)).trans v.m),(v.got.next hg e2).set5 nlq (by omega) _ _ _ _ _,by simp [World.setCell]; omega⟩
theorem OneD.below (v : OneD w0 W A cap l A1 cap1 D1) (hb : Below W.heap.size W w2) : OneD w0 w2 A cap l A1 cap1 D1 := by
 have e2 := v.hi
 exact ⟨(hb.block _ (by omega)).trans v.m,v.got.keep (hb.mono v.got.1.size) (fun g _ hg => hb.block g hg),Nat.le_trans e2 hb.size⟩
end
def qbr (w w' : World) (A : Option Addr) (cap : Nat) (D : Dsk) (n : Int) (was h : Hd) (s : Ent) (l : List Ent) (en : Ending) : Prop :=
 ∃ A' cap' n',en = .returned (.tuple #[vauV A' cap' (D.keepV was h s l).1.1 n' (D.keepV was h s l).2, .int .i64 (((D.keepV was h s l).1.2 : Nat) : Int)]) /\ Got w A cap D.l w' A' cap' (D.keepV was h s l).1.1.l /\ 0 <= n' /\ n' <= n + (l.length : Int) + 1
end Go.Proofs.YtmeoooojmhhahaaGreat
