/- Records in memory: a slice of slices of bytes. -/
import Derived.Test.YtogbhedbgcmckaaGreatNNM01
import Derived.Test.YtogbhedbgcmckaaGreatNNM10
import Derived.Test.YtogbhedbgcmckaaGreatRows
import Derived.WalkSpells
import Derived.WalkLawsBesides
import Derived.KernelRfl
import Derived.IntWalk
import Derived.Laws.BitsAllLaws
import Derived.Outline
import Derived.Lib.Hide
import Derived.Deep.LoopGhost
set_option linter.unusedVariables false
set_option linter.unusedSimpArgs false
set_option maxRecDepth 100000
set_option maxHeartbeats 200000
namespace Go.Proofs.YtogbhedbgcmckaaGreat
open Go.RowKit
def Rec1 (w : World) (Z : Nat -> Prop) (v : Value) (l : List UInt8) : Prop :=
 ∃ E c,v = .slice E l.length c /\ c <= maxLen /\ Lies w E l.length c l /\ (0 < l.length -> ∀ g off,E = some ⟨g,off,none⟩ -> Z g)
def Recs (w : World) (Z : Nat -> Prop) (A : Option Addr) (len cap : Nat) (ls : List (List UInt8)) : Prop :=
 ls.length = len /\ len <= cap /\ (A = none -> cap = 0) /\ (0 < len -> ∃ g off,A = some ⟨g,off,none⟩ /\ g < w.heap.size /\ Z g ∧
  ∀ j (hj : j < ls.length),∃ v,w.cell? ⟨g,off + j,none⟩ = some v /\ Rec1 w Z v ls[j])
section
variable {w w' : World} {Z Z' : Nat → Prop} {v : Value} {l : List UInt8} {A : Option Addr} {len cap : Nat} {ls : List (List UInt8)}
theorem Rec1.keep (h : Rec1 w Z v l) (hs : w.heap.size <= w'.heap.size) (hk : ∀ k,k < w.heap.size -> Z k -> w'.heap[k]? = w.heap[k]?) : Rec1 w' Z v l := by
 obtain ⟨E,c,e,hc,hl,hz⟩ := h;exact ⟨E,c,e,hc,hl.keep hs fun h0 g off e hg => hk g hg (hz h0 g off e),hz⟩
theorem Rec1.mono (h : Rec1 w Z v l) (hz : ∀ k,Z k -> Z' k) : Rec1 w Z' v l := by
 obtain ⟨E,c,e,hc,hl,hz'⟩ := h;exact ⟨E,c,e,hc,hl,fun h0 g off e => hz _ (hz' h0 g off e)⟩
theorem Recs.keep (h : Recs w Z A len cap ls) (hs : w.heap.size <= w'.heap.size) (hk : ∀ k,k < w.heap.size -> Z k -> w'.heap[k]? = w.heap[k]?) : Recs w' Z A len cap ls := by
 refine ⟨h.1,h.2.1,h.2.2.1,fun h0 => ?_⟩;obtain ⟨g,off,e,hg,hz,hc⟩ := h.2.2.2 h0;refine ⟨g,off,e,Nat.lt_of_lt_of_le hg hs,hz,fun j hj => ?_⟩;obtain ⟨v,hv,hr⟩ := hc j hj;exact ⟨v,(World.cell?_of_block (w := w) (hk g hg hz)).trans hv,hr.keep hs hk⟩
theorem Recs.mono (h : Recs w Z A len cap ls) (hz : ∀ k,Z k -> Z' k) : Recs w Z' A len cap ls := by
 refine ⟨h.1,h.2.1,h.2.2.1,fun h0 => ?_⟩;obtain ⟨g,off,e,hg,hz',hc⟩ := h.2.2.2 h0;refine ⟨g,off,e,hg,hz _ hz',fun j hj => ?_⟩;obtain ⟨v,hv,hr⟩ := hc j hj;exact ⟨v,hv,hr.mono hz⟩
theorem Recs.below (h : Recs w Z A len cap ls) {B : Nat} (hb : Below B w w') (hB : w.heap.size <= B) : Recs w' Z A len cap ls :=
 h.keep hb.size fun k hk _ => hb.block k (Nat.lt_of_lt_of_le hk hB)
theorem Recs.keeps (h : Recs w Z A len cap ls) {Y : Nat -> Prop} (hk : qa Y w w') (hz : ∀ k,Z k -> Y k) : Recs w' Z A len cap ls :=
 h.keep hk.size fun k hk' hz' => hk.block k hk' (hz k hz')
theorem Recs.nil (w : World) (Z : Nat -> Prop) : Recs w Z none 0 0 [] := ⟨rfl,Nat.le_refl _,fun _ => rfl,fun h => absurd h (by omega)⟩
theorem Recs.at_ (h : Recs w Z A len cap ls) (j : Nat) (hj : j < len) : ∃ g off E c,A = some ⟨g,off,none⟩ /\ g < w.heap.size /\ Z g /\ w.cell? ⟨g,off + j,none⟩ = some (.slice E (ls[j]'(by rw [h.1]; exact hj)).length c) /\ c <= maxLen ∧
 Lies w E (ls[j]'(by rw [h.1]; exact hj)).length c (ls[j]'(by rw [h.1]; exact hj)) := by
 obtain ⟨g,off,e,hg,hz,hc⟩ := h.2.2.2 (by omega);obtain ⟨v,hv,E,c,rfl,hm,hl,_⟩ := hc j (by rw [h.1]; exact hj);exact ⟨g,off,E,c,e,hg,hz,hv,hm,hl⟩
theorem Recs.one (w : World) (Z : Nat -> Prop) (E : Option Addr) (n c : Nat) (l : List UInt8) (T : TypeId) (fr : Nat × Nat) (hn : n = l.length) (hc : c <= maxLen) (h : Lies w E n c l) (hz : 0 < n -> ∀ g off,E = some ⟨g,off,none⟩ -> Z g) (hZ : Z w.heap.size) :
 Recs (w.alloc (.cells #[.slice E n c] T fr)) Z (some ⟨w.heap.size,0,none⟩) 1 1 [l] := by
 subst hn;refine ⟨rfl,Nat.le_refl _,(fun h => by cases h),fun _ => ⟨w.heap.size,0,rfl,by simp,hZ,fun j hj => ?_⟩⟩
 obtain rfl : j = 0 := by simpa using hj
 refine ⟨_,(cell_of_row _ _ _ _ _ _ (heap_alloc_new w _)).trans rfl,E,c,rfl,hc,h.below ((Below.refl w.heap.size w).alloc (Nat.le_refl _) _) (Nat.le_refl _),hz⟩
end
theorem qaz (l : List (List UInt8)) (h : fit l) : (framesL l).length <= l.length * 60008 := by
 induction l with
 | nil => simp [framesL]
 | cons r l ih =>
   obtain ⟨h1,h2⟩ := qjS h;have := ih h2;rw [qbF,List.length_append,qG,List.length_cons];omega
theorem qcN (l : List (List UInt8)) (k : Nat) (h : k < l.length) : framesL (l.take (k + 1)) = framesL (l.take k) ++ qae l[k] := by
 rw [List.take_succ_eq_append_getElem h,qgj]
 simp [framesL]
theorem qds {l : List (List UInt8)} (h : fit l) (k : Nat) : fit (l.take k) := fun r hr => h r (List.mem_of_mem_take hr)
theorem qfn {l : List (List UInt8)} (h : fit l) (k : Nat) (hk : k < l.length) : l[k].length <= 60000 := h _ (List.getElem_mem hk)
instance (l : List (List UInt8)) : Decidable (fit l) := by unfold fit; infer_instance
end Go.Proofs.YtogbhedbgcmckaaGreat
set_option linter.unusedVariables false
set_option linter.unusedSimpArgs false
set_option maxRecDepth 100000
set_option maxHeartbeats 200000
namespace Go.Proofs.YtogbhedbgcmckaaGreat
open Go.RowKit
def Dsk.wrote (D : Dsk) (name b : ByteArray) : Dsk × Nat := if (D.append name b).2 ≠ 0 then D.append name b else (D.append name b).1.sync name
def Dsk.gone (D : Dsk) (name : ByteArray) : Dsk × Nat := ((D.remove name).1,if (D.remove name).2 = 6 then 0 else (D.remove name).2)
def next (name : ByteArray) : ByteArray := name ++ ⟨#[43]⟩
def Dsk.replaced (D : Dsk) (name b : ByteArray) : Dsk × Nat :=
 if (D.gone (next name)).2 ≠ 0 then D.gone (next name) else
 if b.size = 0 then (D.gone (next name)).1.gone name else
 if ((D.gone (next name)).1.wrote (next name) b).2 ≠ 0 then (D.gone (next name)).1.wrote (next name) b else
 ((D.gone (next name)).1.wrote (next name) b).1.rename (next name) name
abbrev jptr (j : Nat) : Value := .pointer (some ⟨j,0,none⟩)
structure Lg (w : World) (j d : Nat) (D : Dsk) (name : ByteArray) (n : Int) (Z : Nat -> Prop) : Prop where
 box : w.heap[j]? = some (.cells #[dptr d, .string name, .int .i64 n] 179)
 dk : Dk w d D Z
 own : Z j
section
variable {w w' : World} {j d : Nat} {D D' : Dsk} {name : ByteArray} {n : Int} {Z : Nat → Prop}
theorem Lg.lt (h : Lg w j d D name n Z) : j < w.heap.size := hlt h.box
theorem Lg.below (h : Lg w j d D name n Z) (hb : Below w.heap.size w w') : Lg w' j d D name n Z :=
 ⟨(hb.block j h.lt).trans h.box,h.dk.below hb,h.own⟩
theorem Lg.did (h : Lg w j d D name n Z) (hd : Did w w' d D' Z) : Lg w' j d D' name n Z :=
 ⟨(hd.2.block j h.lt h.own).trans h.box,hd.1,h.own⟩
theorem Lg.cells (h : Lg w j d D name n Z) : w.cell? ⟨j,0,none⟩ = some (dptr d) /\ w.cell? ⟨j,1,none⟩ = some (.string name) /\ w.cell? ⟨j,2,none⟩ = some (.int .i64 n) := (row3 h.box).1
theorem Did.refl (h : Dk w d D Z) : Did w w d D Z := ⟨h,qa.refl _ _⟩
theorem Did.trans {w2 : World} {D2 : Dsk} (h : Did w w' d D Z) (k : Did w' w2 d D2 Z) : Did w w2 d D2 Z := ⟨k.1,h.2.trans k.2⟩
theorem Did.low (h : Did w w' d D Z) {w0 : World} (hb : Below w0.heap.size w0 w) (hz : ∀ k,Z k -> k < w0.heap.size) : Did w0 w' d D Z := ⟨h.1,(qb hb (Nat.le_refl _)).trans h.2⟩
theorem Did.drew (h : Did w w' d D Z) : Did w.drew w' d D Z := ⟨h.1,⟨h.2.os,h.2.tape,h.2.output,h.2.size,h.2.block⟩⟩
end
section
variable (w : World) (j d : Nat) (D : Dsk) (nm : ByteArray) (n : Int) (Z : Nat → Prop) (h : Lg w j d D nm n Z)
include h
theorem qej (name : ByteArray) (A : Option Addr) (cap : Nat) (l : List UInt8) (hl : Lies w A l.length cap l) (hb : l.length <= 2147483647) (hz : 0 < l.length -> ∀ g off,A = some ⟨g,off,none⟩ -> Z g) :
 Calls Tryz.prog 169 #[jptr j, .string name, .slice A l.length cap] w fun e w' => e = .returned (.int .i64 (((D.wrote name ⟨l.toArray⟩).2 : Nat) : Int)) /\ Did w w' d (D.wrote name ⟨l.toArray⟩).1 Z := by
 have hA := qhj w d D Z h.dk name A cap l hl hb;obtain ⟨a0,_,_⟩ := h.cells;unfold Dsk.wrote;generalize hr : D.append name ⟨l.toArray⟩ = r at *;obtain ⟨D1,e1⟩ := r;dsimp only at hA ⊢
 by_cases he : e1 = 0
 · subst he;rw [if_neg (by simp)];have HL := Lib.hid h;clear hr hl h hz
   go_enter Tryz.func169,Tryz.ntmps169
   go_wp2_with fail
   refine hA.mono ?_;rintro e w1 ⟨rfl,hd1⟩;have hL1 := Lg.did HL hd1;obtain ⟨b0,_,_⟩ := hL1.cells;have hS := qjQ w1 d D1 Z hL1.dk name;clear hA a0
   go_wp2_with fail
   refine hS.mono ?_;rintro e w2 ⟨rfl,hd2⟩;go_wp2;go_ret;exact ⟨rfl,hd1.trans hd2⟩
 · rw [if_pos he]
   have he' : ((e1 : Int) != 0) = true := by simp; omega
   have he2 : ((e1 : Int) = 0) = False := eq_false (by omega);clear hr hl h hz he
   go_enter Tryz.func169,Tryz.ntmps169
   go_wp2_with fail
   refine hA.mono ?_;rintro e w1 ⟨rfl,hd1⟩;clear hA a0;go_wp2;go_ret;exact ⟨rfl,hd1⟩
theorem qfo (name : ByteArray) :
 Calls Tryz.prog 186 #[jptr j, .string name] w fun e w' => e = .returned (.int .i64 (((D.gone name).2 : Nat) : Int)) /\ Did w w' d (D.gone name).1 Z := by
 have hA := qhl w d D Z h.dk name;obtain ⟨a0,_,_⟩ := h.cells;unfold Dsk.gone;generalize D.remove name = r at *;obtain ⟨D1,e1⟩ := r;dsimp only at hA ⊢
 by_cases he : e1 = 6
 · subst he;rw [if_pos rfl];clear h
   go_enter Tryz.func186,Tryz.ntmps186
   go_wp2_with fail
   refine hA.mono ?_;rintro e w1 ⟨rfl,hd1⟩;go_wp2;go_ret;exact ⟨rfl,hd1⟩
 · rw [if_neg he];have he2 : ((e1 : Int) = 6) = False := eq_false (by omega)
   have he3 : ((e1 : Int) == 6) = false := by simp [he2]
   clear h he
   go_enter Tryz.func186,Tryz.ntmps186
   go_wp2_with fail
   refine hA.mono ?_;rintro e w1 ⟨rfl,hd1⟩;go_wp2;go_ret;exact ⟨rfl,hd1⟩
theorem qgk (A : Option Addr) (cap : Nat) (l : List UInt8) (hl : Lies w A l.length cap l) (hb : l.length <= 2147483647) (hz : 0 < l.length -> ∀ g off,A = some ⟨g,off,none⟩ -> Z g) (hn : nm.size <= 2147483647) :
 Calls Tryz.prog 153 #[jptr j, .slice A l.length cap] w fun e w' => e = .returned (.int .i64 (((D.replaced nm ⟨l.toArray⟩).2 : Nat) : Int)) /\ Did w w' d (D.replaced nm ⟨l.toArray⟩).1 Z := by
 have hG := qfo w j d D nm n Z h (next nm);obtain ⟨a0,a1,_⟩ := h.cells
 have hcat : ¬ ((9223372036854775807 : Nat) < nm.size + (⟨#[43]⟩ : ByteArray).size) := by
  have : (⟨#[43]⟩ : ByteArray).size = 1 := rfl;omega
 have hcat1 : ¬ ((9223372036854775807 : Nat) < nm.size + 1) := by omega
 have hnx : nm ++ ⟨#[43]⟩ = next nm := rfl;have hlsz : (⟨l.toArray⟩ : ByteArray).size = l.length := rfl;unfold Dsk.replaced;generalize D.gone (next nm) = r at *;obtain ⟨D1,e1⟩ := r;dsimp only at hG ⊢;have HL := Lib.hid h
 by_cases he : e1 = 0
 · subst he;rw [if_neg (by simp)];rw [hlsz]
   by_cases h0 : l.length = 0
   · rw [if_pos h0];clear hl h hz hlsz;rw [h0]
     go_enter Tryz.func153,Tryz.ntmps153
     go_wp2_with fail
     refine hG.mono ?_;rintro e w1 ⟨rfl,hd1⟩;have hL1 := Lg.did HL hd1;obtain ⟨b0,b1,_⟩ := hL1.cells;have hS := qfo w1 j d D1 nm n Z hL1 nm;clear hG a0 a1
     go_wp2_with fail
     refine hS.mono ?_;rintro e w2 ⟨rfl,hd2⟩;go_wp2;go_ret;exact ⟨rfl,hd1.trans hd2⟩
   · rw [if_neg h0]
     have hW := fun w1 (hd1 : Did w w1 d D1 Z) => qej w1 j d D1 nm n Z (Lg.did HL hd1) (next nm) A cap l (hl.keeps hd1.2 hz) hb hz
     have hR := fun (D2 : Dsk) w1 (hd1 : Did w w1 d D2 Z) => qhk w1 d D2 Z hd1.1 (next nm) nm
     have hq : ((l.length : Int) = 0) = False := eq_false (by omega);have hq3 : ((l.length : Int) == 0) = false := beq_eq_false_iff_ne.2 (by omega);generalize D1.wrote (next nm) ⟨l.toArray⟩ = r at *;obtain ⟨D2,e2⟩ := r;dsimp only at hW ⊢;generalize l.length = N at *;clear hl h hz hlsz
     by_cases he : e2 = 0
     · subst he;rw [if_neg (by simp)]
       go_enter Tryz.func153,Tryz.ntmps153
       go_wp2_with fail
       refine hG.mono ?_;rintro e w1 ⟨rfl,hd1⟩;have hW1 := hW w1 hd1;clear hG a0 a1 hW
       go_wp2_with fail
       refine hW1.mono ?_;rintro e w2 ⟨rfl,hd2⟩;have hd12 := hd1.trans hd2;have hL2 := Lg.did HL hd12;obtain ⟨b0,b1,_⟩ := hL2.cells
       have hR2 := fun w3 (hw : Below w2.heap.size w2 w3) => hR D2 w3 (hd12.trans ⟨hd12.1.below hw,qb hw (Nat.le_refl _)⟩)
       clear hW1 hR;go_wp2
       go_region_with (go_at_call 163
                       refine (hR2 _ (by first | exact Below.refl _ _ | exact (Below.refl _ _).drew)).mono ?_
                       rintro e w4 ⟨rfl,hd4⟩)
       all_goals
        go_wp2;go_ret;exact ⟨rfl,hd12.trans ⟨hd4.1,⟨hd4.2.os,hd4.2.tape,hd4.2.output,hd4.2.size,hd4.2.block⟩⟩⟩
     · rw [if_pos he]
       have he' : ((e2 : Int) != 0) = true := by simp; omega
       have he2 : ((e2 : Int) = 0) = False := eq_false (by omega);clear he
       go_enter Tryz.func153,Tryz.ntmps153
       go_wp2_with fail
       refine hG.mono ?_;rintro e w1 ⟨rfl,hd1⟩;have hW1 := hW w1 hd1;clear hG a0 a1 hW hR
       go_wp2_with fail
       refine hW1.mono ?_;rintro e w2 ⟨rfl,hd2⟩;go_wp2;go_ret;exact ⟨rfl,hd1.trans hd2⟩
 · rw [if_pos he]
   have he' : ((e1 : Int) != 0) = true := by simp; omega
   have he2 : ((e1 : Int) = 0) = False := eq_false (by omega);clear hl h hz he
   go_enter Tryz.func153,Tryz.ntmps153
   go_wp2_with fail
   refine hG.mono ?_;rintro e w1 ⟨rfl,hd1⟩;clear hG a0 a1;go_wp2;go_ret;exact ⟨rfl,hd1⟩
end
end Go.Proofs.YtogbhedbgcmckaaGreat
set_option linter.unusedVariables false
set_option linter.unusedSimpArgs false
set_option maxRecDepth 100000
set_option maxHeartbeats 1000000
namespace Go.Proofs.YtogbhedbgcmckaaGreat
open Go.RowKit
theorem and1 (r : Nat) (h : r < 4294967296) : bits .and .u32 (r : Int) 1 = ((r % 2 : Nat) : Int) := by
 have := u32_and_nat r 1 h (by decide);rw [nat_mask1] at this;exact this
theorem xorP (r : Nat) (h : r < 4294967296) : bits .xor .u32 (r : Int) 3988292384 = ((r ^^^ 3988292384 : Nat) : Int) := u32_xor_nat r 3988292384 h (by decide)
theorem qks (r : Nat) (h : r < 4294967296) : bits .xor .u32 IntKind.u32.max (r : Int) = ((r ^^^ 4294967295 : Nat) : Int) := by
 rw [Nat.xor_comm]; exact u32_xor_nat 4294967295 r (by decide) h
theorem qho (c : Nat) (w : World) (h : c < 4294967296) : Calls Tryz.prog 224 #[.int .u32 (c : Int)] w fun e w' => e = .returned (.int .u32 ((bitsN 8 c : Nat) : Int)) /\ w = w' := by
 go_enter Tryz.func224,Tryz.ntmps224
 go_wp2
 go_loop [0,4] (fun r i => ∃ k : Nat,k <= 8 /\ i = .int .i64 (k : Int) /\ r = .int .u32 ((bitsN k c : Nat) : Int)) (fun _ i => 8 - (intOf i).toNat)
 case atStart => exact ⟨0,by omega,rfl,rfl⟩
 case round =>
  obtain ⟨k,hk,rfl,rfl⟩ := hrel;have hr := qfk k c h;have hs : bitsN (k + 1) c = bit1 (bitsN k c) := rfl;have HS : Hid (bitsN (k + 1) c = bit1 (bitsN k c)) := ⟨hs⟩;clear hs
  by_cases hlt : k < 8
  · have ha := and1 _ hr;generalize hq : bitsN k c = q at *;clear hq
    by_cases hm : q % 2 = 1
    · have hx := xorP (q / 2) (by omega);rw [hm] at ha
      have e2 : ((q / 2 : Nat) : Int) = (q : Int) / 2 := by omega
      rw [e2] at hx;go_wp2
      go_round
      case rel => exact ⟨k + 1,by omega,by go_num,by rw [HS.out,bit1,if_pos hm]⟩
      case measure => simp [intOf]; omega
    · have hm0 : q % 2 = 0 := by omega
      rw [hm0] at ha
      have e2 : ((q / 2 : Nat) : Int) = (q : Int) / 2 := by omega
      go_wp2
      go_round
      case rel => exact ⟨k + 1,by omega,by go_num,by rw [HS.out,bit1,if_neg hm,e2]⟩
      case measure => simp [intOf]; omega
  · obtain rfl : k = 8 := by omega
    go_wp2;go_ret;exact ⟨rfl,rfl⟩
end Go.Proofs.YtogbhedbgcmckaaGreat
set_option linter.unusedVariables false
set_option linter.unusedSimpArgs false
set_option maxRecDepth 100000
set_option maxHeartbeats 1000000
namespace Go.Proofs.YtogbhedbgcmckaaGreat
open Go.RowKit
theorem qfp (l : List UInt8) (k : Nat) (h : k < l.length) : l.take (k + 1) = l.take k ++ [l[k]] := by
 rw [List.take_succ_eq_append_getElem h]
theorem qjT (l : List UInt8) (k : Nat) (c : Nat) (h : k < l.length) : qau (l.take (k + 1)) c = bitsN 8 (qau (l.take k) c ^^^ (l[k]).toNat) := by
 rw [qfp l k h,qhn]; rfl
theorem qdd (s : Nat) (A : Option Addr) (len cap : Nat) (l : List UInt8) (w : World) (h : s < 4294967296) (hl : Lies w A len cap l) (hm : len <= maxLen) :
 Calls Tryz.prog 212 #[.int .u32 (s : Int), .slice A len cap] w fun e w' => e = .returned (.int .u32 ((moreN s l : Nat) : Int)) /\ w = w' := by
 unfold maxLen at hm;have hx := qks s h;have hc0 := qcL s 4294967295 h (by decide);have HM : Hid (moreN s l = qau l (s ^^^ 4294967295) ^^^ 4294967295) := ⟨rfl⟩;generalize hc : s ^^^ 4294967295 = c at hx hc0 HM;generalize moreN s l = m at HM ⊢;clear hc
 go_enter Tryz.func212,Tryz.ntmps212
 go_wp2;clear hx
 go_loop [5,12] (fun r i => ∃ k : Nat,k <= len /\ i = .int .i64 (k : Int) /\ r = .int .u32 ((qau (l.take k) c : Nat) : Int)) (fun _ i => len - (intOf i).toNat)
 case atStart => exact ⟨0,by omega,rfl,rfl⟩
 case round =>
  obtain ⟨k,hk,rfl,rfl⟩ := hrel;have hr := qfl (l.take k) c hc0;have hll := hl.1
  by_cases hlt : k < len
  · have HS := qjT l k c (by omega);obtain ⟨g,off,rfl,_,hcell⟩ := hl.cell k (by omega);have hb := (l[k]).toNat_lt;generalize l[k] = b at *;have hx := u32_xor_nat (qau (l.take k) c) b.toNat hr (by omega);have HS2 : Hid (qau (l.take (k + 1)) c = bitsN 8 (qau (l.take k) c ^^^ b.toNat)) := ⟨HS⟩;have hr2 := qcL _ b.toNat hr (by omega)
    have hb0 : (b.toNat : Int) % 4294967296 = (b.toNat : Int) := by omega
    have hb1 : (b.toNat : Int) <= 255 := by omega
    clear HS hll;generalize qau (l.take k) c = q at *
    go_wp2_with (go_at_call 224; refine (qho _ _ hr2).mono ?_; rintro e w2 ⟨rfl,rfl⟩)
    go_round
    case rel => exact ⟨k + 1,by omega,by go_num,by rw [HS2.out]⟩
    case measure => simp [intOf]; omega
  · obtain rfl : k = len := by omega
    have hq : Hid (qau (l.take k) c = qau l c) := ⟨by rw [List.take_of_length_le (by omega)]⟩;have hx := qks _ hr;clear hll;go_wp2;go_ret;exact ⟨by rw [HM.out,hq.out]; rfl,rfl⟩
theorem qiu (A : Option Addr) (len cap : Nat) (l : List UInt8) (w : World) (hl : Lies w A len cap l) (hm : len <= maxLen) :
 Calls Tryz.prog 213 #[.slice A len cap] w fun e w' => e = .returned (.int .u32 ((moreN 0 l : Nat) : Int)) /\ w = w' := by
 have hC := fun w hl => qdd 0 A len cap l w (by decide) hl hm
 generalize moreN 0 l = m at hC ⊢
 go_enter Tryz.func213,Tryz.ntmps213
 go_wp2_with (go_at_call 212; refine (hC _ hl).mono ?_; rintro e w2 ⟨rfl,rfl⟩)
 go_ret;exact ⟨rfl,rfl⟩
end Go.Proofs.YtogbhedbgcmckaaGreat
set_option linter.unusedVariables false
set_option linter.unusedSimpArgs false
set_option maxRecDepth 100000
set_option maxHeartbeats 200000
namespace Go.Proofs.YtogbhedbgcmckaaGreat
open Go.RowKit
theorem qjU (w : World) (l : List UInt8) (C : Array Value) (T : TypeId) (fr : Nat × Nat) (n : Nat) (hn : l.length = n) (h : ∀ j (hj : j < l.length),C[j]? = some (u8 l[j])) : Lies (w.alloc (.cells C T fr)) (some ⟨w.heap.size,0,none⟩) n n l := by
 refine ⟨hn,Nat.le_refl _,(fun h => by cases h),fun _ => ⟨w.heap.size,0,rfl,by simp,fun j hj => ?_⟩⟩;rw [cell_of_row _ _ _ _ _ _ (heap_alloc_new w _),Nat.zero_add];exact h j hj
theorem qiv (x : Nat) (b : UInt8) (hx : x < 16777216) : bits BinOp.or IntKind.u32 ((x : Int) * 256) ((b.toNat : Int) % 4294967296) = ((x * 256 + b.toNat : Nat) : Int) := by
 have hb : b.toNat < 256 := b.toNat_lt;rw [show (b.toNat : Int) % 4294967296 = (b.toNat : Int) by omega];rw [bits_join .u32 32 (by decide) (fun m h0 h1 => IntWalk.u32_in _ (by omega)) 8 _ _ (by omega) (by omega) (by omega) (by omega) (by omega) (by omega)];omega
theorem qde (A : Option Addr) (len cap : Nat) (l : List UInt8) (w : World) (hl : Lies w A len cap l) (h4 : len <= 4) :
 Calls Tryz.prog 181 #[.slice A len cap] w fun e w' => e = .returned (.int .u32 ((num l : Nat) : Int)) /\ w = w' := by
 go_enter Tryz.func181,Tryz.ntmps181
 go_wp2
 go_loop [3,8] (fun r i => ∃ k : Nat,k <= len /\ i = .int .i64 (k : Int) /\ r = .int .u32 ((num (l.take k) : Nat) : Int)) (fun _ i => len - (intOf i).toNat)
 case atStart => exact ⟨0,by omega,rfl,by simp [num]⟩
 case round =>
  obtain ⟨k,hk,rfl,rfl⟩ := hrel;have hll := hl.1
  by_cases hlt : k < len
  · obtain ⟨g,off,rfl,_,hcell⟩ := hl.cell k (by omega)
    have hx : num (l.take k) < 16777216 := by
     have h1 := qdB (l.take k);have h2 : 256 ^ (l.take k).length <= 256 ^ 3 := Nat.pow_le_pow_right (by omega) (by simp; omega)
     have h3 : (256 : Nat) ^ 3 = 16777216 := by decide
     omega
    have hor := qiv (num (l.take k)) l[k] hx
    have hnx : num (l.take k) * 256 + l[k].toNat = num (l.take (k + 1)) := by rw [qfp l k (by omega),qeX]
    rw [hnx] at hor;clear hnx;generalize l[k] = b at *;obtain ⟨y,hy⟩ : ∃ y,Hid (num (l.take (k + 1)) = y) := ⟨_,⟨rfl⟩⟩;rw [hy.out] at hor;generalize num (l.take k) = x at *;go_wp2
    go_round
    case rel => exact ⟨k + 1,by omega,by go_num,by rw [hy.out]⟩
    case measure => simp [intOf]; omega
  · obtain rfl : k = len := by omega
    have hq : Hid (num (l.take k) = num l) := ⟨by rw [List.take_of_length_le (by omega)]⟩;go_wp2;go_ret;exact ⟨by first | rfl | (rw [<- hq.out]; rfl),rfl⟩
theorem qfq (A B : Option Addr) (la ca lb cb : Nat) (l r : List UInt8) (w : World) (hl : Lies w A la ca l) (hr : Lies w B lb cb r) (h1 : la <= maxLen) (h2 : lb <= maxLen) :
 Calls Tryz.prog 182 #[.slice A la ca, .slice B lb cb] w fun e w' => e = .returned (.int .u32 ((moreN (moreN 0 l) r : Nat) : Int)) /\ w = w' := by
 have hO := qiu A la ca l w hl h1;have hlt := qbE 0 l (by omega);generalize moreN 0 l = q at *;have hM := qdd q B lb cb r w hlt hr h2;generalize moreN q r = q2 at *
 go_enter Tryz.func182,Tryz.ntmps182
 go_wp2_with (first
  | (go_at_call 213; refine hO.mono ?_; rintro e w1 ⟨rfl,rfl⟩)
  | (go_at_call 212; refine hM.mono ?_; rintro e w1 ⟨rfl,rfl⟩))
 go_ret;exact ⟨rfl,rfl⟩
theorem qfr (v : Nat) (hv : v < 4294967296) (w : World) :
 Calls Tryz.prog 185 #[.int .u32 (v : Int)] w fun e w' => ∃ g,e = .returned (.slice (some ⟨g,0,none⟩) 4 4) /\ Lies w' (some ⟨g,0,none⟩) 4 4 (wide v 4) /\ w.heap.size <= g /\ Below w.heap.size w w' := by
 go_enter Tryz.func185,Tryz.ntmps185
 go_wp2;go_ret;refine ⟨w.heap.size,rfl,qjU w (wide v 4) _ _ _ 4 (by simp) (fun j hj => ?_),Nat.le_refl _,(Below.refl _ _).alloc (Nat.le_refl _) _⟩
 have hj4 : j < 4 := by simpa using hj
 have e : wide v 4 = [UInt8.ofNat (v / 16777216),UInt8.ofNat (v / 65536),UInt8.ofNat (v / 256),UInt8.ofNat v] := by simp [wide]
 have c : ∀ z : Nat,((UInt8.ofNat z).toNat : Int) = (z : Int) % 256 := fun z => by simp
 have d : (v : Int) / 16777216 % 256 = (v : Int) / 16777216 := by omega
 have c0 := c (v / 16777216);have c1 := c (v / 65536);have c2 := c (v / 256);have c3 := c v;simp only [e]
 match j,hj4 with
 | 0,_ => simp only [List.getElem_cons_zero,u8,c0]; rw [<- d]; rfl
 | 1,_ => simp only [List.getElem_cons_succ,List.getElem_cons_zero,u8,c1]; rfl
 | 2,_ => simp only [List.getElem_cons_succ,List.getElem_cons_zero,u8,c2]; rfl
 | 3,_ => simp only [List.getElem_cons_succ,List.getElem_cons_zero,u8,c3]; rfl
end Go.Proofs.YtogbhedbgcmckaaGreat
set_option linter.unusedVariables false
set_option linter.unusedSimpArgs false
set_option maxRecDepth 100000
set_option maxHeartbeats 4000000
namespace Go.Proofs.YtogbhedbgcmckaaGreat
open Go.RowKit
theorem qcl {T : TypeId} {w : World} {base n cap : Nat} {A : Option Addr} {l : List UInt8} (h : Owns T w base (.slice A n cap) l) : cap <= maxLen := by
 rcases h.2 with ⟨e,h0⟩ | ⟨g,cap',cur,e,hb,hg,hc,hm,hs,ht⟩
 · injection e with e1 e2 e3;subst e3;exact Nat.zero_le _
 · injection e with e1 e2 e3;subst e3;exact hm
structure FrAt (w wr : World) (ls : List (List UInt8)) (k : Nat) (v : Value) : Prop where
 own : Owns 5 wr w.heap.size v (framesL (ls.take k))
 below : Below w.heap.size w wr
theorem qdH (Z : Nat -> Prop) (A : Option Addr) (len cap : Nat) (ls : List (List UInt8)) (w : World) (h : Recs w Z A len cap ls) (hm : len <= 1000000) (hf : fit ls) :
 Calls Tryz.prog 152 #[.slice A len cap] w fun e w' => ∃ A' cap',e = .returned (.tuple #[.slice A' (framesL ls).length cap', .int .i64 0]) /\ Owns 5 w' w.heap.size (.slice A' (framesL ls).length cap') (framesL ls) /\ Below w.heap.size w w' := by
 have hll := h.1;have hfl := qaz ls hf;obtain ⟨i0,hi0,hz0,hz1,hz2⟩ := info_parts qbx
 have hmk : ∀ (w1 : World) (n : Nat),n <= 100000000000 -> (Instr.makeSlice 23 (.int .i64 0) (.int .i64 (n : Int))).run Tryz.prog w1 = .ok (.slice (some ⟨w1.heap.size,0,none⟩) 0 n) (w1.alloc (.cells (madeCells #[.int .u8 0] (n * 1)) 5)) := fun w1 n hn => by
  have := run_make (P := Tryz.prog) w1 23 5 i0 _ Tryz.underlying23 hi0 hz0 .i64 .i64 0 (n : Int) (Int.le_refl _) (by omega) (by rw [hz2]; omega) (by omega);rw [hz1] at this;exact this
 have HF := Lib.hid hf;clear hf
 go_enter Tryz.func152,Tryz.ntmps152
 go_wp2
 go_loop [4,6,13] (fun s r i => ∃ k : Nat,k <= len /\ i = .int .i64 (k : Int) /\ s = .int .i64 (((framesL (ls.take k)).length : Nat) : Int)) (fun _ _ i => len - (intOf i).toNat)
 case atStart => exact ⟨0,by omega,rfl,by simp [framesL]⟩
 case round =>
  obtain ⟨k,hk,rfl,rfl⟩ := hrel
  by_cases hlt : k < len
  · have hlt' : (k : Int) < (len : Int) := by omega
    obtain ⟨g,off,E,c,rfl,hg,_,hcell,hc,hl⟩ := h.at_ k hlt;have h60 := qfn HF k (by omega);have hft := qaz _ (qds HF k)
    have hnx : (framesL (ls.take (k + 1))).length = (framesL (ls.take k)).length + (8 + (ls[k]'(by omega)).length) := by
     rw [qcN ls k (by omega),List.length_append,qG]; omega
    rw [List.length_take] at hft;generalize (framesL (ls.take k)).length = z at *;obtain ⟨z2,hz2e⟩ : ∃ z2,Hid ((framesL (ls.take (k + 1))).length = z2) := ⟨_,⟨rfl⟩⟩;rw [hz2e.out] at hnx;generalize (ls[k]'(by omega)).length = n at *;have hlong' : ((60000 : Int) < (n : Int)) = False := eq_false (by omega)
    have e1 : IntKind.i64.wrap (8 + (n : Int)) = ((8 + n : Nat) : Int) := by rw [IntWalk.i64_in _ (by omega)]; omega
    have e2 : IntKind.i64.wrap ((z : Int) + ((8 + n : Nat) : Int)) = ((z + (8 + n) : Nat) : Int) := by rw [IntWalk.i64_in _ (by omega)]; omega
    have e3 : IntKind.i64.wrap ((k : Int) + 1) = ((k + 1 : Nat) : Int) := by rw [IntWalk.i64_in _ (by omega)]; omega
    generalize 8 + n = n8 at *;rw [<- hnx] at e2;clear hl hft hnx h60 hc hll h hfl hmk;go_wp2
    go_round
    case rel => exact ⟨k + 1,by omega,by go_num,by rw [hz2e.out]⟩
    case measure => simp [intOf]; omega
  · obtain rfl : k = len := by omega
    have htk : ls.take k = ls := List.take_of_length_le (by omega);rw [htk]
    have hmk2 := fun w1 => hmk w1 (framesL ls).length (by omega)
    have hown := World.ownsRow_made (base := w.heap.size) (e := 5) (size := 1) w (madeCells #[.int .u8 0] ((framesL ls).length * 1)) (framesL ls).length (Nat.le_refl _) (by unfold maxLen; omega) (size_madeCells _ _)
    have hst : FrAt w (w.alloc (.cells (madeCells #[.int .u8 0] ((framesL ls).length * 1)) 5)) ls 0 (.slice (some ⟨w.heap.size,0,none⟩) 0 (framesL ls).length) :=
     ⟨by simpa [framesL,Owns] using hown,(Below.refl _ _).alloc (Nat.le_refl _) _⟩
    have hNE : (framesL ls).length <= 100000000000 := by omega
    generalize hNl : (framesL ls).length = N at *;have HNL := Lib.hid hNl;have HST := Lib.hid hst;clear hNl hown hmk htk hfl hst;go_wp2
    go_loopg [7,9,10,30] k (fun g v r y i wr => ∃ j : Nat,j + g = k /\ i = .int .i64 (j : Int) /\ FrAt w wr ls j v)
    case atStart => exact ⟨0,by omega,rfl,by have h0 : FrAt _ _ _ _ _ := HST; rw [Nat.mul_one] at h0; exact h0⟩
    case round =>
     obtain ⟨j,hj,rfl,hfr⟩ := hrel;clear hmk2 HST
     by_cases hlt2 : j < k
     · have hlt' : (j : Int) < (k : Int) := by omega
       obtain ⟨g,off,E,c,rfl,hg,_,hcell,hc,hl⟩ := h.at_ j hlt2;have h60 := qfn HF j (by omega)
       have hHr := fun wx (hb : Below w.heap.size w wx) => hl.below hb (Nat.le_refl _)
       have hcell2 := (World.cell?_of_block (w := w) (a := ⟨g,off + j,none⟩) (hfr.below.block g hg)).trans hcell;have hfx := qcN ls j (by omega);have hbnd := qaz _ (qds HF (j + 1));have hbnd0 := qaz _ (qds HF j);rw [List.length_take] at hbnd hbnd0;generalize (ls[j]'(by omega)) = r at *;have hbw := hfr.below;have hs0 := hfr.below.size;have hown := hfr.own;obtain ⟨f,hfe⟩ := exq (framesL (ls.take j));obtain ⟨f2,hf2⟩ := exq (framesL (ls.take (j + 1)));rw [hfe] at hown hfx hbnd0;rw [hf2] at hfx hbnd;obtain ⟨A0,cap0,rfl,_,_⟩ := qp hown;have HF2 := Lib.hid hf2;clear hfe hf2;obtain ⟨n,hn⟩ : ∃ n,Hid (r.length = n) := ⟨_,⟨rfl⟩⟩;have hrn := hn.out;rw [hrn] at hcell2 hHr h60
       have hcv : (n : Int) % 4294967296 = (n : Int) := by omega
       have hcv2 : IntKind.u32.wrap (n : Int) = (n : Int) := IntWalk.u32_in _ (by omega);have hq1 := qbE 0 (wide n 4) (by omega);have hq2 := qbE (moreN 0 (wide n 4)) r hq1
       have hbl : f.length <= 100000000000 := by omega
       have HFX := Lib.hid (show f2 = f ++ (wide n 4 ++ (wide (moreN (moreN 0 (wide n 4)) r) 4 ++ r)) by rw [hfx]; unfold qae sumL; rw [hrn])
       have e3 : IntKind.i64.wrap ((j : Int) + 1) = ((j + 1 : Nat) : Int) := by rw [IntWalk.i64_in _ (by omega)]; omega
       have HJ := Lib.hid hj;have HLT := Lib.hid hlt2;have H60 := Lib.hid h60;clear hfr h hfx hrn hcell hbnd hbnd0 hj hlt2 h60 hll hNE hm hl
       go_wp2_with fail
       refine (qfr n (by have : n <= 60000 := H60; omega) _).mono ?_;rintro e w1 ⟨g1,rfl,hl1,hg1,hb1⟩;have hbw1 : Below w.heap.size w w1 := hbw.trans (hb1.mono hs0);have hown1 : Owns 5 w1 w.heap.size (.slice A0 f.length cap0) f := hown.keep (fun q hq => hb1.block q (hown.lt q hq).2)
       go_wp2_with (first
        | (at_builtin; refine qW _ rfl _ _ 23 rfl 5 i0 Tryz.underlying23 hi0 hz0 hz1 hz2 w.heap.size hbw1.size (.slice A0 f.length cap0) f rfl hown1 (some ⟨g1,0,none⟩) 4 4 (wide n 4) rfl hl1 (by simp; omega) ?_
           intro v2 w2 ho2 hgr2 hat2)
        | fail)
       have hl2 : Lies w2 (some ⟨g1,0,none⟩) 4 4 (wide n 4) := hl1.grown hgr2 fun i hi h0 g off e hgi => by
        injection e with e;injection e with e;have h1 := (hown.lt i hi).2;omega
       have hbw2 : Below w.heap.size w w2 := hbw1.grown hgr2 hbw1.size fun q hq => (hown.lt q hq).1
       go_wp2_with fail
       refine (qfq _ _ _ _ _ _ _ _ _ hl2 (hHr _ hbw2) (by unfold maxLen; omega) (by have : n <= 60000 := H60; unfold maxLen; omega)).mono ?_;rintro e w3 ⟨rfl,rfl⟩
       go_wp2_with fail
       refine (qfr _ hq2 _).mono ?_;rintro e w4 ⟨g4,rfl,hl4,hg4,hb4⟩;have hbw4 : Below w.heap.size w w4 := hbw2.trans (hb4.mono hbw2.size);have hown4 : Owns 5 w4 w.heap.size v2 (f ++ wide n 4) := ho2.keep (fun q hq => hb4.block q (ho2.lt q hq).2)
       go_wp2_with (first
        | (at_builtin; refine qW _ rfl _ _ 23 rfl 5 i0 Tryz.underlying23 hi0 hz0 hz1 hz2 w.heap.size hbw4.size v2 _ rfl hown4 (some ⟨g4,0,none⟩) 4 4 _ rfl hl4 (by simp; omega) ?_
           intro v5 w5 ho5 hgr5 hat5
           have hbw5 : Below w.heap.size w w5 := hbw4.grown hgr5 hbw4.size fun q hq => (ho2.lt q hq).1
           have hE5 := hHr _ hbw5)
        | (at_builtin; refine qW _ rfl _ _ 23 rfl 5 i0 Tryz.underlying23 hi0 hz0 hz1 hz2 w.heap.size hbw5.size v5 _ rfl ho5 E n c r rfl hE5 (by have : n <= 60000 := H60; have := hn.out; simp; omega) ?_
           intro v6 w6 ho6 hgr6 hat6)
        | fail)
       have HR := Lib.hid (show FrAt w w6 ls (j + 1) v6 from ⟨by have e : framesL (ls.take (j + 1)) = f2 := HF2; rw [e]; have e2 : f2 = _ := HFX; rw [e2,<- List.append_assoc,<- List.append_assoc]; exact ho6,hbw5.grown hgr6 hbw5.size fun q hq => (ho5.lt q hq).1⟩);clear hHr hl1 hb1 hown1 ho2 hgr2 hat2 hl2 hb4 hl4 hown4 ho5 hgr5 hat5 hE5 ho6 hgr6 hat6 hown;go_wp2
       go_roundg (gk - 1)
       case measure => have : j + gk = k := HJ; omega
       case rel => exact ⟨j + 1,by have : j + gk = k := HJ; have : j < k := HLT; omega,by go_num,HR⟩
     · obtain rfl : j = k := by omega
       have hfin := hfr.own;have hbf := hfr.below;rw [List.take_of_length_le (by omega)] at hfin;obtain ⟨Af,capf,rfl,_,_⟩ := qp hfin;have hdec : decide ((j : Int) < (j : Int)) = false := decide_eq_false (by omega);have HFIN := Lib.hid hfin;clear hfr hfin h hll hNE hm hj;go_wp2;refine bodyPost_ret (results_tmp2 rfl _ _ _) rfl ?_;refine ⟨Af,capf,by have e : (framesL ls).length = N := HNL; rw [<- e]; rfl,?_,hbf⟩;exact HFIN
end Go.Proofs.YtogbhedbgcmckaaGreat
