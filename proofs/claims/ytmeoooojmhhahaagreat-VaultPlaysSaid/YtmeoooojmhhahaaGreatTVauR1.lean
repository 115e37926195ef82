/- The document's log on a disk: gone, put, each by its contract. -/
import Derived.Test.YtmeoooojmhhahaaGreatTWalL
import Derived.Test.YtmeoooojmhhahaaGreatTWalRf
set_option linter.unusedVariables false
set_option linter.unusedSimpArgs false
set_option maxRecDepth 100000
set_option maxHeartbeats 2000000
namespace Go.Proofs.YtmeoooojmhhahaaGreat
open Go.RowKit
abbrev logC (A : Option Addr) (cap : Nat) (D : Dsk) (nm : ByteArray) (n : Int) : Array Value := #[.int .i64 D.room, .slice A D.l.length cap, .bool D.set, .int .i64 D.n, .bool D.lost, .string nm, .int .i64 n]
abbrev logV (A : Option Addr) (cap : Nat) (D : Dsk) (nm : ByteArray) (n : Int) : Value := .agg (logC A cap D nm n)
abbrev qay : Array Value := #[.int .i64 0, .slice none 0 0, .bool false, .int .i64 0, .bool false, .string ⟨#[]⟩, .int .i64 0]
theorem qfA (X : World) (n : Nat) (a b c d e a0 b0 c0 d0 e0 f g : Value) (T : TypeId) (h : X.heap[n]? = some (.cells #[a0,b0,c0,d0,e0,f,g] T)) :
 (((((X.setCell ⟨n,0,none⟩ a).setCell ⟨n,1,none⟩ b).setCell ⟨n,2,none⟩ c).setCell ⟨n,3,none⟩ d).setCell ⟨n,4,none⟩ e).heap[n]? = some (.cells #[a,b,c,d,e,f,g] T) := by
 simp only [World.setCell,Array.getElem?_modify,if_true,h,Option.map_some]
 simp
theorem qaH (X : World) (n : Nat) (a b c d e f g a0 b0 c0 d0 e0 f0 g0 : Value) (T : TypeId) (h : X.heap[n]? = some (.cells #[a0,b0,c0,d0,e0,f0,g0] T)) :
 (((((((X.setCell ⟨n,0,none⟩ a).setCell ⟨n,1,none⟩ b).setCell ⟨n,2,none⟩ c).setCell ⟨n,3,none⟩ d).setCell ⟨n,4,none⟩ e).setCell ⟨n,5,none⟩ f).setCell ⟨n,6,none⟩ g).heap[n]? = some (.cells #[a,b,c,d,e,f,g] T) := by
 simp only [World.setCell,Array.getElem?_modify,if_true,h,Option.map_some]
 simp
theorem qbN {B : Nat} {w w1 : World} {n : Nat} (h : Below B w w1) (hn : B <= n) (a b c d e f g : Value) :
 Below B w (((((((w1.setCell ⟨n,0,none⟩ a).setCell ⟨n,1,none⟩ b).setCell ⟨n,2,none⟩ c).setCell ⟨n,3,none⟩ d).setCell ⟨n,4,none⟩ e).setCell ⟨n,5,none⟩ f).setCell ⟨n,6,none⟩ g) := by
 repeat (refine Below.setCell ?_ (by show B <= n; exact hn) _)
 exact h
theorem qap (w1 : World) {n k : Nat} (hk : k ≠ n) (a b c d e f g : Value) :
 (((((((w1.setCell ⟨n,0,none⟩ a).setCell ⟨n,1,none⟩ b).setCell ⟨n,2,none⟩ c).setCell ⟨n,3,none⟩ d).setCell ⟨n,4,none⟩ e).setCell ⟨n,5,none⟩ f).setCell ⟨n,6,none⟩ g).heap[k]? = w1.heap[k]? := by
 repeat (refine (Below.heap_setCell _ _ _ _ (by show k ≠ n; exact hk)).trans ?_)
 rfl
theorem qfB (w : World) (C Z : Array Value) (T : TypeId) :
 Below w.heap.size w ((w.alloc (.cells C T)).alloc (.cells Z T)) /\ ((w.alloc (.cells C T)).alloc (.cells Z T)).heap[w.heap.size]? = some (.cells C T) ∧
 ((w.alloc (.cells C T)).alloc (.cells Z T)).heap[w.heap.size + 1]? = some (.cells Z T) /\ ((w.alloc (.cells C T)).alloc (.cells Z T)).heap.size = w.heap.size + 2 :=
 ⟨(blq.alloc nlq _).alloc (by simp) _,heap_alloc2_old _ _ _,heap_alloc2_new _ _ _,by simp⟩
theorem Got.wrap12 {w W w1 : World} {A A' : Option Addr} {cap cap' p q : Nat} {l l' : List Fil} (hb : Below w.heap.size w W) (hg : Got W A cap l w1 A' cap' l') (hp : w.heap.size <= p) (hp2 : p < W.heap.size) (hq : w.heap.size <= q) (hq2 : q < W.heap.size) (a b c d e a' b' c' d' e' f' g' : Value) :
 Got w A cap l ((((((((((((w1.setCell ⟨p,0,none⟩ a).setCell ⟨p,1,none⟩ b).setCell ⟨p,2,none⟩ c).setCell ⟨p,3,none⟩ d).setCell ⟨p,4,none⟩ e).setCell ⟨q,0,none⟩ a').setCell ⟨q,1,none⟩ b').setCell ⟨q,2,none⟩ c').setCell ⟨q,3,none⟩ d').setCell ⟨q,4,none⟩ e').setCell ⟨q,5,none⟩ f').setCell ⟨q,6,none⟩ g') A' cap' l' :=
 Got.wrap hb hg (qbN (qk blq hp _ _ _ _ _) hq _ _ _ _ _ _ _) (fun k h1 h2 => (qap _ (by omega) _ _ _ _ _ _ _).trans (qf w1 (by omega) _ _ _ _ _))
theorem qgq (A : Option Addr) (cap : Nat) (D : Dsk) (nm : ByteArray) (n : Int) (name : ByteArray) (w : World) (h : RF w A cap D.l) (hl : D.l.length <= 400000000) (hn : -9223372036854775808 <= D.n /\ D.n <= 9223372036854775807) :
 Calls Tryz.prog 103 #[logV A cap D nm n, .string name] w fun e w' => ∃ A' cap',e = .returned (.tuple #[logV A' cap' (D.gone name).1 nm n, .int .i64 (((D.gone name).2 : Nat) : Int)]) /\ Got w A cap D.l w' A' cap' (D.gone name).1.l := by
 obtain ⟨hbW,hm0,hm1,hsW⟩ := qfB w (logC A cap D nm n) qay 43
 have hR := qc3 A cap D name _ (h.below hbW nlq) hl hn
 generalize hW : (w.alloc (.cells (logC A cap D nm n) 43)).alloc (.cells qay 43) = W at *
 have HW := Lib.hid hW
 clear hW
 unfold Dsk.gone
 generalize D.remove name = R at hR ⊢
 obtain ⟨⟨eroom,el,eset,en,elost⟩,ecode⟩ := R
 obtain ⟨room,l,set,dn,lost⟩ := D
 dsimp only at *
 go_enter Tryz.func103,Tryz.ntmps103
 obtain ⟨⟨a0,a1,a2,a3,a4,a5,a6⟩,_⟩ := row7 hm0
 go_wp2_with fail
 rw [HW.out]
 refine hR.mono ?_
 rintro e w1 ⟨A1,cap1,rfl,hg1⟩
 have m0 := (hg1.1.block _ (by omega)).trans hm0
 have m1 := (hg1.1.block _ (by omega)).trans hm1
 clear a0 a1 a2 a3 a4 a5 a6
 obtain ⟨⟨a0,a1,a2,a3,a4,a5,a6⟩,⟨b0,b1,b2,b3,b4,b5,b6⟩⟩ := row7 m0
 obtain ⟨⟨c0,c1,c2,c3,c4,c5,c6⟩,⟨d0,d1,d2,d3,d4,d5,d6⟩⟩ := row7 m1
 have hz0 : w.heap.size < w1.heap.size := by have := hg1.1.size; omega
 have hz1 : w.heap.size + 1 < w1.heap.size := by have := hg1.1.size; omega
 have M1 := Lib.hid m1
 have HG := Lib.hid (Got.wrap12 (p := w.heap.size) (q := w.heap.size + 1) hbW hg1 nlq (by omega) (by omega) (by omega))
 clear m0 m1 hm0 hm1 hbW hg1 hR HW hsW
 by_cases h6 : ecode = 6
 · subst h6
   go_wp2
   refine bodyPost_ret (qa (n := w.heap.size + 1) rfl rfl (qaH _ _ _ _ _ _ _ _ _ _ _ _ _ _ _ _ _ ((qf w1 (by omega) _ _ _ _ _).trans M1.out)) Tryz.underlying43 rfl (by kernel_rfl)) rfl ?_
   exact ⟨A1,cap1,rfl,HG.out _ _ _ _ _ _ _ _ _ _ _ _⟩
 · have h6' : ((ecode : Int) == 6) = false := by simp; omega
   go_wp2
   refine bodyPost_ret (qa (n := w.heap.size + 1) rfl rfl (qaH _ _ _ _ _ _ _ _ _ _ _ _ _ _ _ _ _ ((qf w1 (by omega) _ _ _ _ _).trans M1.out)) Tryz.underlying43 rfl (by kernel_rfl)) rfl ?_
   exact ⟨A1,cap1,rfl,HG.out _ _ _ _ _ _ _ _ _ _ _ _⟩
end Go.Proofs.YtmeoooojmhhahaaGreat
namespace Go.Proofs.YtmeoooojmhhahaaGreat
open Go.RowKit
def GotB (w : World) (B : Nat) (A : Option Addr) (cap : Nat) (l : List Fil) (w' : World) (A' : Option Addr) (cap' : Nat) (l' : List Fil) : Prop :=
 Below w.heap.size w w' /\ ((A' = A /\ cap' = cap /\ l' = l) \/ (RF w' A' cap' l' /\ New B A'))
section
variable {w W w1 w2 : World} {B : Nat} {A A1 A2 : Option Addr} {cap cap1 cap2 : Nat} {l l1 l2 : List Fil}
theorem GotB.call (hb : Below w.heap.size w W) (hg : Got W A cap l w1 A1 cap1 l1) : GotB w W.heap.size A cap l w1 A1 cap1 l1 :=
 ⟨hb.trans (hg.1.mono hb.size),hg.2⟩
theorem GotB.rf (h : GotB w B A cap l w1 A1 cap1 l1) (h0 : RF w A cap l) : RF w1 A1 cap1 l1 := by
 rcases h.2 with ⟨rfl,rfl,rfl⟩ | ⟨h1,_⟩
 · exact h0.below h.1 nlq
 · exact h1
theorem GotB.got (h : GotB w B A cap l w1 A1 cap1 l1) (hB : w.heap.size <= B) : Got w A cap l w1 A1 cap1 l1 :=
 ⟨h.1,h.2.imp id fun ⟨h1,h2⟩ => ⟨h1,h2.mono hB⟩⟩
theorem GotB.keep (h : GotB w B A cap l w1 A1 cap1 l1) (hb : Below w.heap.size w1 w2) (hk : ∀ g,B <= g -> g < w1.heap.size -> w2.heap[g]? = w1.heap[g]?) : GotB w B A cap l w2 A1 cap1 l1 :=
 ⟨h.1.trans hb,h.2.imp id fun ⟨h1,h2⟩ => ⟨h1.keepN h2 hb.size hk,h2⟩⟩
theorem GotB.set5 (h : GotB w B A cap l w1 A1 cap1 l1) {p : Nat} (hp : w.heap.size <= p) (hp2 : p < B) (a b c d e : Value) :
 GotB w B A cap l (((((w1.setCell ⟨p,0,none⟩ a).setCell ⟨p,1,none⟩ b).setCell ⟨p,2,none⟩ c).setCell ⟨p,3,none⟩ d).setCell ⟨p,4,none⟩ e) A1 cap1 l1 :=
 h.keep (qk blq hp _ _ _ _ _) fun g h1 h2 => qf w1 (by omega) _ _ _ _ _
theorem GotB.set7 (h : GotB w B A cap l w1 A1 cap1 l1) {p : Nat} (hp : w.heap.size <= p) (hp2 : p < B) (a b c d e f g : Value) :
 GotB w B A cap l (((((((w1.setCell ⟨p,0,none⟩ a).setCell ⟨p,1,none⟩ b).setCell ⟨p,2,none⟩ c).setCell ⟨p,3,none⟩ d).setCell ⟨p,4,none⟩ e).setCell ⟨p,5,none⟩ f).setCell ⟨p,6,none⟩ g) A1 cap1 l1 :=
 h.keep (qbN blq hp _ _ _ _ _ _ _) fun k h1 h2 => qap w1 (by omega) _ _ _ _ _ _ _
theorem GotB.next (h : GotB w B A cap l w1 A1 cap1 l1) (k : Got w1 A1 cap1 l1 w2 A2 cap2 l2) (hB : B <= w1.heap.size) : GotB w B A cap l w2 A2 cap2 l2 := by
 refine ⟨h.1.trans (k.1.mono h.1.size),?_⟩
 rcases k.2 with ⟨rfl,rfl,rfl⟩ | ⟨k1,k2⟩
 · exact h.2.imp id fun ⟨h1,h2⟩ => ⟨h1.below k.1 nlq,h2⟩
 · exact .inr ⟨k1,k2.mono hB⟩
end
theorem qhD (A : Option Addr) (cap : Nat) (D : Dsk) (nm : ByteArray) (n : Int) (name b : ByteArray) (w : World) (h : RF w A cap D.l) (hG : Good D) (hb : b.size <= 1099511627776) :
 Calls Tryz.prog 104 #[logV A cap D nm n, .string name, .string b] w fun e w' => ∃ A' cap',e = .returned (.tuple #[logV A' cap' (D.wrote name b).1 nm n, .int .i64 (((D.wrote name b).2 : Nat) : Int)]) /\ Got w A cap D.l w' A' cap' (D.wrote name b).1.l := by
 obtain ⟨hbW,hm0,hm1,hsW⟩ := qfB w (logC A cap D nm n) qay 43
 have g1 := hG.append name b
 have hA := qc5 A cap D name b _ (h.below hbW nlq) (by have := hG.len; omega) (by have := hG.n; omega) (by have := hG.usedN; omega) hb
 have hS := fun A' cap' w h => qdR A' cap' (D.append name b).1 name w h (by have := g1.len; omega) (by have := g1.n; omega)
 clear g1 hG hb
 generalize hW : (w.alloc (.cells (logC A cap D nm n) 43)).alloc (.cells qay 43) = W at *
 have HW := Lib.hid hW
 clear hW
 unfold Dsk.wrote
 generalize D.append name b = RA at hA hS ⊢
 obtain ⟨⟨eroom,el,eset,en,elost⟩,ecode⟩ := RA
 dsimp only at *
 generalize Dsk.sync ⟨eroom,el,eset,en,elost⟩ name = RS at hS ⊢
 obtain ⟨⟨qroom,ql,qset,qn,qlost⟩,qcode⟩ := RS
 obtain ⟨room,l,set,dn,lost⟩ := D
 dsimp only at *
 go_enter Tryz.func104,Tryz.ntmps104
 obtain ⟨⟨a0,a1,a2,a3,a4,a5,a6⟩,_⟩ := row7 hm0
 go_wp2_with fail
 rw [HW.out]
 refine hA.mono ?_
 rintro e w1 ⟨A1,cap1,rfl,hg1⟩
 have m0 := (hg1.1.block _ (by omega)).trans hm0
 have m1 := (hg1.1.block _ (by omega)).trans hm1
 clear a0 a1 a2 a3 a4 a5 a6
 have hs1 : W.heap.size <= w1.heap.size := hg1.1.size
 have hq := GotB.call hbW hg1
 clear hbW hg1 hA HW hm0 hm1
 by_cases h0 : ecode = 0
 · subst h0
   obtain ⟨_,⟨b0,b1,b2,b3,b4,b5,b6⟩⟩ := row7 m0
   have hz0 : w.heap.size < w1.heap.size := by omega
   have k0 := qfA w1 w.heap.size (.int .i64 eroom) (.slice A1 el.length cap1) (.bool eset) (.int .i64 en) (.bool elost) _ _ _ _ _ _ _ _ m0
   have k1 := (qf w1 (n := w.heap.size) (k := w.heap.size + 1) (by omega) (.int .i64 eroom) (.slice A1 el.length cap1) (.bool eset) (.int .i64 en) (.bool elost)).trans m1
   have hq5 := hq.set5 (p := w.heap.size) nlq (by omega) (.int .i64 eroom) (.slice A1 el.length cap1) (.bool eset) (.int .i64 en) (.bool elost)
   have hS1 := hS A1 cap1 _ (hq5.rf h)
   have K0 := Lib.hid k0
   have K1 := Lib.hid k1
   have Q5 := Lib.hid hq5
   clear m0 m1 k0 k1 hq5 hq hS
   go_wp2_with fail
   refine hS1.mono ?_
   rintro e w2 ⟨A2,cap2,rfl,hg2⟩
   have hs2 : w1.heap.size <= w2.heap.size := by have := hg2.1.size; simpa using this
   have m0 := (hg2.1.block _ (by simp; omega)).trans K0.out
   have m1 := (hg2.1.block _ (by simp; omega)).trans K1.out
   have hq2 := Q5.out.next hg2 (by simp; omega)
   clear b0 b1 b2 b3 b4 b5 b6 K0 K1 Q5 hS1 hg2
   obtain ⟨⟨a0,a1,a2,a3,a4,a5,a6⟩,⟨b0,b1,b2,b3,b4,b5,b6⟩⟩ := row7 m0
   obtain ⟨⟨c0,c1,c2,c3,c4,c5,c6⟩,⟨d0,d1,d2,d3,d4,d5,d6⟩⟩ := row7 m1
   have hz2 : w.heap.size < w2.heap.size := by omega
   have hz3 : w.heap.size + 1 < w2.heap.size := by omega
   have M1 := Lib.hid m1
   have Q2 := Lib.hid hq2
   clear m0 m1 hq2
   go_wp2
   refine bodyPost_ret (qa (n := w.heap.size + 1) rfl rfl (qaH _ _ _ _ _ _ _ _ _ _ _ _ _ _ _ _ _ ((qf w2 (by omega) _ _ _ _ _).trans M1.out)) Tryz.underlying43 rfl (by kernel_rfl)) rfl ?_
   exact ⟨A2,cap2,rfl,((Q2.out.set5 nlq (by omega) _ _ _ _ _).set7 (by omega) (by omega) _ _ _ _ _ _ _).got (by omega)⟩
 · have h0' : ((ecode : Int) == 0) = false := by simp; omega
   obtain ⟨⟨a0,a1,a2,a3,a4,a5,a6⟩,⟨b0,b1,b2,b3,b4,b5,b6⟩⟩ := row7 m0
   obtain ⟨⟨c0,c1,c2,c3,c4,c5,c6⟩,⟨d0,d1,d2,d3,d4,d5,d6⟩⟩ := row7 m1
   have hz0 : w.heap.size < w1.heap.size := by omega
   have hz1 : w.heap.size + 1 < w1.heap.size := by omega
   have M1 := Lib.hid m1
   have Q := Lib.hid hq
   clear m0 m1 hq hS
   go_wp2
   refine bodyPost_ret (qa (n := w.heap.size + 1) rfl rfl (qaH _ _ _ _ _ _ _ _ _ _ _ _ _ _ _ _ _ ((qf w1 (by omega) _ _ _ _ _).trans M1.out)) Tryz.underlying43 rfl (by kernel_rfl)) rfl ?_
   exact ⟨A1,cap1,rfl,((Q.out.set5 nlq (by omega) _ _ _ _ _).set7 (by omega) (by omega) _ _ _ _ _ _ _).got (by omega)⟩
end Go.Proofs.YtmeoooojmhhahaaGreat
namespace Go.Proofs.YtmeoooojmhhahaaGreat
open Go.RowKit
def Strs (w : World) (A : Option Addr) (len cap : Nat) (ts : List ByteArray) : Prop :=
 ts.length = len /\ len <= cap /\ (0 < len -> ∃ g off,A = some ⟨g,off,none⟩ /\ g < w.heap.size /\ ∀ j (hj : j < ts.length),w.cell? ⟨g,off + j,none⟩ = some (.string ts[j]))
theorem Strs.below {w w' : World} {A : Option Addr} {len cap : Nat} {ts : List ByteArray} (h : Strs w A len cap ts) {B : Nat} (hb : Below B w w') (hB : w.heap.size <= B) : Strs w' A len cap ts := by
 refine ⟨h.1,h.2.1,fun h0 => ?_⟩
 obtain ⟨g,off,e,hg,hc⟩ := h.2.2 h0
 exact ⟨g,off,e,Nat.lt_of_lt_of_le hg hb.size,fun j hj => (World.cell?_of_block (hb.block g (Nat.lt_of_lt_of_le hg hB))).trans (hc j hj)⟩
def fitS (ts : List ByteArray) : Bool := ts.all fun s => decide (s.size <= 60000)
theorem qlU {ts : List ByteArray} (k : Nat) (hk : k < ts.length) (h : 60000 < ts[k].size) : fitS ts = false := by
 cases hf : fitS ts with
 | false => rfl
 | true =>
   have := List.all_eq_true.1 hf _ (List.getElem_mem hk)
   have := of_decide_eq_true this
   omega
theorem qlr {ts : List ByteArray} (h : ∀ k (hk : k < ts.length),ts[k].size <= 60000) : fitS ts = true := by
 refine List.all_eq_true.2 fun s hs => ?_
 obtain ⟨k,hk,rfl⟩ := List.getElem_of_mem hs
 exact decide_eq_true (h k hk)
def qak (ts : List ByteArray) : List UInt8 := framesL (ts.map btl)
theorem qhE (ts : List ByteArray) (k : Nat) (hk : k < ts.length) : qak (ts.take (k + 1)) = qak (ts.take k) ++ frameL (btl ts[k]) := by
 unfold qak
 rw [List.take_succ_eq_append_getElem hk,List.map_append,qek]
 simp [framesL]
theorem qev (A : Option Addr) (len cap : Nat) (ts : List ByteArray) (w : World) (h : Strs w A len cap ts) (hm : len <= 100000) :
 Calls Tryz.prog 102 #[.slice A len cap] w fun e w' => ∃ T : ByteArray,e = .returned (.tuple #[.string T, .bool (fitS ts)]) /\ (fitS ts = true -> btl T = qak ts) /\ Below w.heap.size w w' := by
 have hll := h.1
 go_enter Tryz.func102,Tryz.ntmps102
 go_wp2
 go_loopg [4,5,8] len (fun g ss kk ii wr => ∃ (k : Nat) (T : ByteArray),k + g = len /\ ii = .int .i64 (k : Int) /\ ss = .string T /\ btl T = qak (ts.take k) /\ T.size <= k * 60008 /\ (∀ j (hj : j < ts.length),j < k -> ts[j].size <= 60000) /\ Below w.heap.size w wr)
 case atStart => exact ⟨0,⟨#[]⟩,by omega,rfl,rfl,rfl,nlq,fun j hj h0 => absurd h0 (by omega),blq⟩
 case round =>
  obtain ⟨k,T,hk,rfl,rfl,hT,hTs,hall,hb⟩ := hrel
  by_cases hlt : k < len
  · have hlt' : (k : Int) < (len : Int) := by omega
    obtain ⟨g,off,rfl,hg,hc⟩ := (h.below hb nlq).2.2 (by omega)
    have x0 := hc k (by omega)
    have hnx := qhE ts k (by omega)
    have hno := qlU k (show k < ts.length by omega)
    have hal : ts[k].size <= 60000 -> ∀ j (hj : j < ts.length),j < k + 1 -> ts[j].size <= 60000 := fun h6 j hj hjk => by
     by_cases e : j = k
     · subst e; exact h6
     · exact hall j hj (by omega)
    obtain ⟨s,hs⟩ : ∃ s,s = ts[k]'(by omega) := ⟨_,rfl⟩
    rw [<- hs] at x0 hnx hno hal
    clear hs hc
    by_cases h6 : 60000 < s.size
    · have h6' : (60000 : Int) < (s.size : Int) := by omega
      have HN := Lib.hid (hno h6)
      have HB := Lib.hid hb
      clear hno hnx hal hall hT hb h
      go_wp2
      refine bodyPost_ret (results_tmp2 rfl _ _ _) rfl ?_
      exact ⟨⟨#[]⟩,(by rw [HN.out]; rfl),(fun e => by rw [HN.out] at e; cases e),HB.out⟩
    · have h6' : ¬ ((60000 : Int) < (s.size : Int)) := by omega
      have hF := qfy s (by omega) wr
      have HK := Lib.hid hk
      have HX := Lib.hid hnx
      have HA := Lib.hid (hal (by omega))
      have HT := Lib.hid hT
      have HB := Lib.hid hb
      clear hno hnx hal hall hT hb h
      go_wp2_with fail
      refine hF.mono ?_
      rintro e w3 ⟨t,rfl,ht,hb3⟩
      have hts : t.size = s.size + 8 := by
       have := congrArg List.length ht
       rw [qu,qC,qC] at this
       exact this
      have HT3 := Lib.hid ht
      clear ht hF
      go_wp2
      go_roundg (gk - 1)
      case measure => have : k + gk = len := HK.out; omega
      case rel => exact ⟨k + 1,T ++ t,(by have : k + gk = len := HK.out; omega),(by go_num),rfl,(by rw [qef,HT.out,HX.out,HT3.out]),(by rw [ByteArray.size_append,hts,Nat.add_mul]; omega),HA.out,HB.out.trans (hb3.mono HB.out.size)⟩
  · have hlt' : ¬ ((k : Int) < (len : Int)) := by omega
    have HN := Lib.hid (qlr fun j hj => hall j hj (by omega))
    have e : ts.take k = ts := List.take_of_length_le (by omega)
    rw [e] at hT
    have HT := Lib.hid hT
    have HB := Lib.hid hb
    clear hall hT hb h
    go_wp2
    refine bodyPost_ret (results_tmp2 rfl _ _ _) rfl ?_
    exact ⟨T,(by rw [HN.out]; rfl),(fun _ => HT.out),HB.out⟩
end Go.Proofs.YtmeoooojmhhahaaGreat
namespace Go.Proofs.YtmeoooojmhhahaaGreat
open Go.RowKit
theorem GotB.set1 {w w1 : World} {B : Nat} {A A1 : Option Addr} {cap cap1 : Nat} {l l1 : List Fil} (h : GotB w B A cap l w1 A1 cap1 l1) {p : Nat} (hp : w.heap.size <= p) (hp2 : p < B) (o : Nat) (a : Value) :
 GotB w B A cap l (w1.setCell ⟨p,o,none⟩ a) A1 cap1 l1 :=
 h.keep (blq.setCell (by show w.heap.size <= p; exact hp) _) fun k h1 h2 => Below.heap_setCell _ _ _ _ (by show k ≠ p; omega)
def Dsk.addedS (D : Dsk) (nm : ByteArray) (ts : List ByteArray) : Dsk × Nat := if fitS ts = true then D.added nm (ts.map btl) else (D,3)
theorem qew (ts : List ByteArray) (h : fitS ts = true) : (qak ts).length <= ts.length * 60008 := by
 induction ts with
 | nil => exact nlq
 | cons s ts ih =>
   have h1 : s.size <= 60000 /\ fitS ts = true := by simpa [fitS] using h
   have h2 := ih h1.2
   have e : qak (s :: ts) = frameL (btl s) ++ qak ts := rfl
   rw [e,List.length_append,qu,qC,List.length_cons,Nat.add_mul]
   omega
theorem qeY (A : Option Addr) (cap : Nat) (D : Dsk) (nm : ByteArray) (n : Int) (E : Option Addr) (len ecap : Nat) (ts : List ByteArray) (w : World) (h : RF w A cap D.l) (hG : Good D) (hS : Strs w E len ecap ts) (hm : len <= 100000) (hn : 0 <= n /\ n <= 1000000000000) :
 Calls Tryz.prog 56 #[logV A cap D nm n, .slice E len ecap] w fun e w' => ∃ A' cap',e = .returned (.tuple #[logV A' cap' (D.addedS nm ts).1 nm (cnt (D.addedS nm ts) n (n + (len : Int))), .int .i64 (((D.addedS nm ts).2 : Nat) : Int)]) /\ Got w A cap D.l w' A' cap' (D.addedS nm ts).1.l := by
 obtain ⟨hbW,hm0,hm1,hsW⟩ := qfB w (logC A cap D nm n) qay 43
 have hF := qev E len ecap ts _ (hS.below hbW nlq) hm
 have hlen := hS.1
 have hdef : Hid (D.addedS nm ts = if fitS ts = true then D.added nm (ts.map btl) else (D,3)) := ⟨rfl⟩
 generalize hW : (w.alloc (.cells (logC A cap D nm n) 43)).alloc (.cells qay 43) = W at *
 have HW := Lib.hid hW
 clear hW hS
 go_enter Tryz.func56,Tryz.ntmps56
 go_wp2_with fail
 rw [HW.out]
 refine hF.mono ?_
 rintro e w1 ⟨T,rfl,hT,hb1⟩
 have m0 := (hb1.block _ (by omega)).trans hm0
 have m1 := (hb1.block _ (by omega)).trans hm1
 have hs1 : W.heap.size <= w1.heap.size := hb1.size
 have hbw : Below w.heap.size w w1 := hbW.trans (hb1.mono hbW.size)
 clear hbW hb1 hF HW hm0 hm1
 obtain ⟨⟨a0,a1,a2,a3,a4,a5,a6⟩,⟨b0,b1,b2,b3,b4,b5,b6⟩⟩ := row7 m0
 obtain ⟨⟨c0,c1,c2,c3,c4,c5,c6⟩,⟨d0,d1,d2,d3,d4,d5,d6⟩⟩ := row7 m1
 have hz0 : w.heap.size < w1.heap.size := by omega
 have hz1 : w.heap.size + 1 < w1.heap.size := by omega
 cases hfit : fitS ts with
 | false =>
   rw [hfit,if_neg (by simp)] at hdef
   have M1 := Lib.hid m1
   have HB := Lib.hid hbw
   clear m0 m1 hbw hT
   go_wp2
   refine bodyPost_ret (qa (n := w.heap.size + 1) rfl rfl (qaH _ _ _ _ _ _ _ _ _ _ _ _ _ _ _ _ _ M1.out) Tryz.underlying43 rfl (by kernel_rfl)) rfl ?_
   rw [hdef.out]
   exact ⟨A,cap,rfl,Got.same (qbN HB.out (by omega) _ _ _ _ _ _ _)⟩
 | true =>
   rw [hfit,if_pos rfl] at hdef
   have hT := hT hfit
   by_cases h0 : len = 0
   · subst h0
     have hts : ts = [] := List.length_eq_zero_iff.1 hlen
     subst hts
     have hdef2 : Hid (D.addedS nm [] = (D,0)) := ⟨by rw [hdef.out]; rfl⟩
     have M1 := Lib.hid m1
     have HB := Lib.hid hbw
     clear m0 m1 hbw hT hdef
     go_wp2
     refine bodyPost_ret (qa (n := w.heap.size + 1) rfl rfl (qaH _ _ _ _ _ _ _ _ _ _ _ _ _ _ _ _ _ M1.out) Tryz.underlying43 rfl (by kernel_rfl)) rfl ?_
     rw [hdef2.out]
     exact ⟨A,cap,(by simp [cnt]),Got.same (qbN HB.out (by omega) _ _ _ _ _ _ _)⟩
   · have h0' : ((len : Int) == 0) = false := by simp; omega
     have hTe : T = ⟨(framesL (ts.map btl)).toArray⟩ := qcl hT
     have hdef2 : D.addedS nm ts = D.wrote nm T := by
      rw [hdef.out,hTe]
      unfold Dsk.added
      rw [if_neg]
      intro e
      have : ts.length = 0 := by rw [List.map_eq_nil_iff.1 e]; rfl
      omega
     have hP := qhD A cap D nm n nm T _ (h.below hbw nlq) hG (by
      have e1 := congrArg List.length hT
      rw [qC] at e1
      have e2 : (qak ts).length <= ts.length * 60008 := qew ts hfit
      omega)
     generalize D.wrote nm T = R at hP hdef2
     obtain ⟨⟨eroom,el,eset,en,elost⟩,ecode⟩ := R
     dsimp only at *
     have M0 := Lib.hid m0
     have M1 := Lib.hid m1
     have HB := Lib.hid hbw
     have HD := Lib.hid hdef2
     clear m0 m1 hbw hT hTe hdef hdef2
     go_wp2_with fail
     refine hP.mono ?_
     rintro e w2 ⟨A2,cap2,rfl,hg2⟩
     have m0 := (hg2.1.block _ hz0).trans M0.out
     have m1 := (hg2.1.block _ hz1).trans M1.out
     have hq := GotB.call HB.out hg2
     have hs2 : w1.heap.size <= w2.heap.size := hg2.1.size
     clear M0 M1 HB hg2 hP a0 a1 a2 a3 a4 a5 a6 b0 b1 b2 b3 b4 b5 b6 c0 c1 c2 c3 c4 c5 c6 d0 d1 d2 d3 d4 d5 d6
     have hz2 : w.heap.size < w2.heap.size := by omega
     have hz3 : w.heap.size + 1 < w2.heap.size := by omega
     obtain ⟨_,⟨b0,b1,b2,b3,b4,b5,b6⟩⟩ := row7 m0
     have k0 := qaH w2 w.heap.size (.int .i64 eroom) (.slice A2 el.length cap2) (.bool eset) (.int .i64 en) (.bool elost) (.string nm) (.int .i64 n) _ _ _ _ _ _ _ _ m0
     have k1 := (qap w2 (n := w.heap.size) (k := w.heap.size + 1) (by omega) (.int .i64 eroom) (.slice A2 el.length cap2) (.bool eset) (.int .i64 en) (.bool elost) (.string nm) (.int .i64 n)).trans m1
     have hq2 := hq.set7 (p := w.heap.size) nlq (by omega) (.int .i64 eroom) (.slice A2 el.length cap2) (.bool eset) (.int .i64 en) (.bool elost) (.string nm) (.int .i64 n)
     have hs3 : (((((((w2.setCell ⟨w.heap.size,0,none⟩ (.int .i64 eroom)).setCell ⟨w.heap.size,1,none⟩ (.slice A2 el.length cap2)).setCell ⟨w.heap.size,2,none⟩ (.bool eset)).setCell ⟨w.heap.size,3,none⟩ (.int .i64 en)).setCell ⟨w.heap.size,4,none⟩ (.bool elost)).setCell ⟨w.heap.size,5,none⟩ (.string nm)).setCell ⟨w.heap.size,6,none⟩ (.int .i64 n)).heap.size = w2.heap.size := by simp [World.setCell]
     clear m0 m1 hq
     go_upto_region 7 with fail
     generalize (((((((w2.setCell ⟨w.heap.size,0,none⟩ (.int .i64 eroom)).setCell ⟨w.heap.size,1,none⟩ (.slice A2 el.length cap2)).setCell ⟨w.heap.size,2,none⟩ (.bool eset)).setCell ⟨w.heap.size,3,none⟩ (.int .i64 en)).setCell ⟨w.heap.size,4,none⟩ (.bool elost)).setCell ⟨w.heap.size,5,none⟩ (.string nm)).setCell ⟨w.heap.size,6,none⟩ (.int .i64 n)) = W2 at *
     clear b0 b1 b2 b3 b4 b5 b6
     obtain ⟨⟨a0,a1,a2,a3,a4,a5,a6⟩,⟨b0,b1,b2,b3,b4,b5,b6⟩⟩ := row7 k0
     obtain ⟨⟨c0,c1,c2,c3,c4,c5,c6⟩,⟨d0,d1,d2,d3,d4,d5,d6⟩⟩ := row7 k1
     have M1 := Lib.hid k1
     have Q := Lib.hid hq2
     clear k0 k1 hq2
     by_cases he : ecode = 0
     · subst he
       obtain ⟨K,hK⟩ : ∃ K : Int,K = n + (len : Int) := ⟨_,rfl⟩
       have hw : wrap64 (n + (len : Int)) = K := by rw [hK]; exact IntWalk.wrap64_in _ (by omega)
       have HC := Lib.hid (show cnt (⟨⟨eroom,el,eset,en,elost⟩,0⟩ : Dsk × Nat) n (n + (len : Int)) = K by rw [hK]; rfl)
       clear hK hn hm hlen
       go_wp2
       refine bodyPost_ret (qa (n := w.heap.size + 1) rfl rfl (qaH _ _ _ _ _ _ _ _ _ _ _ _ _ _ _ _ _ ((Below.heap_setCell _ _ _ _ (by show w.heap.size + 1 ≠ w.heap.size; omega)).trans M1.out)) Tryz.underlying43 rfl (by kernel_rfl)) rfl ?_
       rw [HD.out,HC.out]
       exact ⟨A2,cap2,rfl,((Q.out.set1 nlq (by omega) _ _).set7 (by omega) (by omega) _ _ _ _ _ _ _).got (by omega)⟩
     · have he' : ((ecode : Int) == 0) = false := by simp; omega
       have HC := Lib.hid (show cnt (⟨⟨eroom,el,eset,en,elost⟩,ecode⟩ : Dsk × Nat) n (n + (len : Int)) = n from if_neg he)
       go_wp2
       refine bodyPost_ret (qa (n := w.heap.size + 1) rfl rfl (qaH _ _ _ _ _ _ _ _ _ _ _ _ _ _ _ _ _ M1.out) Tryz.underlying43 rfl (by kernel_rfl)) rfl ?_
       rw [HD.out,HC.out]
       exact ⟨A2,cap2,rfl,(Q.out.set7 (by omega) (by omega) _ _ _ _ _ _ _).got (by omega)⟩
end Go.Proofs.YtmeoooojmhhahaaGreat
