/- What the logs want of the program's disk: how it stands in memory, and each call's contract. 'Z': blocks that it is none of. -/
import Derived.Test.YtmeoooojmhhahaaGreatTDsk2
import Derived.Test.YtmeoooojmhhahaaGreatTWalP
set_option linter.unusedVariables false
set_option linter.unusedSimpArgs false
set_option maxRecDepth 100000
set_option maxHeartbeats 200000
namespace Go.Proofs.YtmeoooojmhhahaaGreat
open Go.RowKit
abbrev dptr (d : Nat) : Value := .pointer (some ⟨d,0,none⟩)
structure Dk (w : World) (d : Nat) (D : Dsk) (Z : Nat -> Prop) : Prop where
 dk : DkG w d D Z Z
 good : Good D
 old : ∀ k,Z k -> k < w.heap.size
theorem DkG.carry {w w' : World} {d : Nat} {D : Dsk} {M M' Z Z' : Nat -> Prop} (h : DkG w d D M Z) (hs : w.heap.size <= w'.heap.size) (hM : ∀ k,M' k -> M k \/ w.heap.size <= k) (hZ : ∀ k,Z' k -> Z k \/ w.heap.size <= k) (hb : ∀ k,k < w.heap.size -> ¬ M k -> w'.heap[k]? = w.heap[k]?) : DkG w' d D M' Z' := by
 obtain ⟨t,h⟩ := h
 exact ⟨t,h.carry hs hM hZ hb⟩
theorem DkG.own {w : World} {d : Nat} {D : Dsk} {M Z : Nat -> Prop} (h : DkG w d D M Z) : ¬ Z d /\ d < w.heap.size := by
 obtain ⟨t,h⟩ := h
 exact ⟨h.own.2,h.lt⟩
theorem qaG {w w' w0 : World} {d : Nat} {D : Dsk} {Z : Nat -> Prop} (h : DkG w0 d D Z Z) (hk : qc (· ≠ d) w w') : qc Z w w' := hk.mono fun k hz e => h.own.1 (e ▸ hz)
theorem qc.old {w w' : World} {Z Y : Nat -> Prop} (hk : qc Y w w') (h : ∀ k,Z k -> k < w.heap.size) : ∀ k,Z k -> k < w'.heap.size := fun k hz => Nat.lt_of_lt_of_le (h k hz) hk.size
theorem Dk.keep {w w' : World} {d : Nat} {D : Dsk} {Z : Nat -> Prop} (h : Dk w d D Z) (hs : w.heap.size <= w'.heap.size) (hb : ∀ k,k < w.heap.size -> ¬ Z k -> w'.heap[k]? = w.heap[k]?) : Dk w' d D Z :=
 ⟨h.dk.carry hs (fun k hk => .inl hk) (fun k hk => .inl hk) hb,h.good,fun k hk => Nat.lt_of_lt_of_le (h.old k hk) hs⟩
theorem Dk.below {w w' : World} {d : Nat} {D : Dsk} {Z : Nat -> Prop} (h : Dk w d D Z) (hb : Below w.heap.size w w') : Dk w' d D Z := h.keep hb.size fun k hk _ => hb.block k hk
theorem Dk.wide {w w' : World} {d : Nat} {D : Dsk} {Z : Nat -> Prop} (h : Dk w d D Z) (hb : Below w.heap.size w w') : Dk w' d D (fun k => Z k \/ w.heap.size <= k /\ k < w'.heap.size) :=
 ⟨h.dk.carry hb.size (fun k hk => hk.elim .inl fun q => .inr q.1) (fun k hk => hk.elim .inl fun q => .inr q.1) fun k hk _ => hb.block k hk,h.good,fun k hk => hk.elim (fun q => Nat.lt_of_lt_of_le (h.old k q) hb.size) fun q => q.2⟩
theorem Dk.less {w : World} {d : Nat} {D : Dsk} {Z Z' : Nat -> Prop} (h : Dk w d D Z) (hz : ∀ k,Z' k -> Z k) : Dk w d D Z' :=
 ⟨h.dk.carry nlq (fun k hk => .inl (hz k hk)) (fun k hk => .inl (hz k hk)) fun _ _ _ => rfl,h.good,fun k hk => h.old k (hz k hk)⟩
theorem qli (room : Int) (h0 : 0 <= room) (h1 : room <= 1048576) : Good ⟨room,[],false,0,false⟩ :=
 ⟨⟨h0,h1⟩,⟨List.Pairwise.nil,fun f hf => by cases hf⟩,by show ((0 : Nat) : Int) <= room; omega,by show (0 : Int) <= 0 /\ (0 : Int) <= _; omega⟩
def Did (w w' : World) (d : Nat) (D : Dsk) (Z : Nat -> Prop) : Prop := Dk w' d D Z /\ qc Z w w'
section
variable (w : World) (d : Nat) (D : Dsk) (Z : Nat → Prop) (h : Dk w d D Z) (name : ByteArray)
theorem qiv (room : Int) (hZ : ∀ k,Z k -> k < w.heap.size) (h0 : 0 <= room) (h1 : room <= 1048576) : Calls Tryz.prog 11 #[.int .i64 room] w fun e w' => ∃ d,e = .returned (.tuple #[dptr d, .int .i64 0]) /\ Dk w' d ⟨room,[],false,0,false⟩ Z /\ Below w.heap.size w w' :=
 (qiu room w Z Z h0 h1 hZ hZ).mono fun e w' ⟨d,he,hD,hb⟩ => ⟨d,he,⟨hD,qli room h0 h1,fun k hk => Nat.lt_of_lt_of_le (hZ k hk) hb.size⟩,hb⟩
include h
theorem qfp (A : Option Addr) (cap : Nat) (l : List UInt8) (hl : Lies w A l.length cap l) (hb : l.length <= 2147483647) : Calls Tryz.prog 33 #[dptr d, .string name, .slice A l.length cap] w fun e w' => e = .returned (.int .i64 (((D.append name ⟨l.toArray⟩).2 : Nat) : Int)) /\ Did w w' d (D.append name ⟨l.toArray⟩).1 Z :=
 (qfm w d D Z Z name A cap l h.dk h.good h.old h.old hl hb).mono fun e w' ⟨he,hD,hk⟩ => ⟨he,⟨hD,h.good.append _ _,hk.old h.old⟩,hk⟩
theorem qhp : Calls Tryz.prog 34 #[dptr d, .string name] w fun e w' => e = .returned (.int .i64 (((D.sync name).2 : Nat) : Int)) /\ Did w w' d (D.sync name).1 Z :=
 (qhh w d D Z Z name h.dk h.good h.old h.old).mono fun e w' ⟨he,hD,hk⟩ => ⟨he,⟨hD,h.good.sync _,hk.old h.old⟩,qaG h.dk hk⟩
theorem qiw (n : Int) (hn : -9223372036854775808 <= n /\ n <= 9223372036854775807) : Calls Tryz.prog 66 #[dptr d, .string name, .int .i64 n] w fun e w' => e = .returned (.int .i64 (((D.cut name n).2 : Nat) : Int)) /\ Did w w' d (D.cut name n).1 Z :=
 (qit w d D Z Z name n hn h.dk h.good h.old h.old).mono fun e w' ⟨he,hD,hk⟩ => ⟨he,⟨hD,h.good.cut _ _,hk.old h.old⟩,qaG h.dk hk⟩
theorem qfq (b : ByteArray) : Calls Tryz.prog 68 #[dptr d, .string name, .string b] w fun e w' => e = .returned (.int .i64 (((D.rename name b).2 : Nat) : Int)) /\ Did w w' d (D.rename name b).1 Z :=
 (qfl w d D Z Z name b h.dk h.good h.old h.old).mono fun e w' ⟨he,hD,hk⟩ => ⟨he,⟨hD,h.good.rename _ _,hk.old h.old⟩,qaG h.dk hk⟩
theorem qfr : Calls Tryz.prog 32 #[dptr d, .string name] w fun e w' => e = .returned (.int .i64 (((D.remove name).2 : Nat) : Int)) /\ Did w w' d (D.remove name).1 Z :=
 (qfk w d D Z Z name h.dk h.good h.old h.old).mono fun e w' ⟨he,hD,hk⟩ => ⟨he,⟨hD,h.good.remove _,hk.old h.old⟩,qaG h.dk hk⟩
theorem qdy : Calls Tryz.prog 31 #[dptr d, .string name] w fun e w' => ∃ A cap,e = .returned (.tuple #[.slice A (D.read name).1.size cap, .int .i64 (((D.read name).2 : Nat) : Int)]) /\ Lies w' A (D.read name).1.size cap (D.read name).1.data.toList /\ Below w.heap.size w w' :=
 (qhi w d D Z Z name h.dk h.good).mono fun e w' ⟨A,cap,he,hl,hn,hb,_⟩ => ⟨A,cap,he,hl,hb⟩
end
end Go.Proofs.YtmeoooojmhhahaaGreat
namespace Go.Proofs.YtmeoooojmhhahaaGreat
open Go.RowKit
def Dsk.wrote (D : Dsk) (name b : ByteArray) : Dsk × Nat := if (D.append name b).2 ≠ 0 then D.append name b else (D.append name b).1.sync name
def Dsk.gone (D : Dsk) (name : ByteArray) : Dsk × Nat := ((D.remove name).1,if (D.remove name).2 = 6 then 0 else (D.remove name).2)
def next (name : ByteArray) : ByteArray := name ++ ⟨#[43]⟩
def Dsk.replaced (D : Dsk) (name b : ByteArray) : Dsk × Nat :=
 if (D.gone (next name)).2 ≠ 0 then D.gone (next name) else
 if b.size = 0 then (D.gone (next name)).1.gone name else
 if ((D.gone (next name)).1.wrote (next name) b).2 ≠ 0 then (D.gone (next name)).1.wrote (next name) b else
 ((D.gone (next name)).1.wrote (next name) b).1.rename (next name) name
abbrev jptr (j : Nat) : Value := .pointer (some ⟨j,0,none⟩)
structure Lg (w : World) (j d : Nat) (D : Dsk) (name : ByteArray) (n : Int) (Z : Nat -> Prop) : Prop where
 box : w.heap[j]? = some (.cells #[dptr d, .string name, .int .i64 n] 166)
 dk : Dk w d D Z
 own : Z j
section
variable {w w' : World} {j d : Nat} {D D' : Dsk} {name : ByteArray} {n : Int} {Z : Nat → Prop}
theorem Lg.lt (h : Lg w j d D name n Z) : j < w.heap.size := hlt h.box
theorem Lg.below (h : Lg w j d D name n Z) (hb : Below w.heap.size w w') : Lg w' j d D name n Z :=
 ⟨(hb.block j h.lt).trans h.box,h.dk.below hb,h.own⟩
theorem Lg.did (h : Lg w j d D name n Z) (hd : Did w w' d D' Z) : Lg w' j d D' name n Z :=
 ⟨(hd.2.block j h.lt h.own).trans h.box,hd.1,h.own⟩
theorem Lg.cells (h : Lg w j d D name n Z) : w.cell? ⟨j,0,none⟩ = some (dptr d) /\ w.cell? ⟨j,1,none⟩ = some (.string name) /\ w.cell? ⟨j,2,none⟩ = some (.int .i64 n) := (row3 h.box).1
theorem Did.refl (h : Dk w d D Z) : Did w w d D Z := ⟨h,qc.refl _ _⟩
theorem Did.trans {w2 : World} {D2 : Dsk} (h : Did w w' d D Z) (k : Did w' w2 d D2 Z) : Did w w2 d D2 Z := ⟨k.1,h.2.trans k.2⟩
theorem Did.low (h : Did w w' d D Z) {w0 : World} (hb : Below w0.heap.size w0 w) (hz : ∀ k,Z k -> k < w0.heap.size) : Did w0 w' d D Z := ⟨h.1,(qe hb nlq).trans h.2⟩
theorem Did.drew (h : Did w w' d D Z) : Did w.drew w' d D Z := ⟨h.1,⟨h.2.os,h.2.tape,h.2.output,h.2.size,h.2.block⟩⟩
end
section
variable (w : World) (j d : Nat) (D : Dsk) (nm : ByteArray) (n : Int) (Z : Nat → Prop) (h : Lg w j d D nm n Z)
include h
theorem qge (name : ByteArray) (A : Option Addr) (cap : Nat) (l : List UInt8) (hl : Lies w A l.length cap l) (hb : l.length <= 2147483647) (hz : 0 < l.length -> ∀ g off,A = some ⟨g,off,none⟩ -> Z g) :
 Calls Tryz.prog 111 #[jptr j, .string name, .slice A l.length cap] w fun e w' => e = .returned (.int .i64 (((D.wrote name ⟨l.toArray⟩).2 : Nat) : Int)) /\ Did w w' d (D.wrote name ⟨l.toArray⟩).1 Z := by
 have hA := qfp w d D Z h.dk name A cap l hl hb
 obtain ⟨a0,_,_⟩ := h.cells
 unfold Dsk.wrote
 generalize hr : D.append name ⟨l.toArray⟩ = r at *
 obtain ⟨D1,e1⟩ := r
 dsimp only at hA ⊢
 by_cases he : e1 = 0
 · subst he
   rw [if_neg (by simp)]
   have HL := Lib.hid h
   clear hr hl h hz
   go_enter Tryz.func111,Tryz.ntmps111
   go_wp2_with fail
   refine hA.mono ?_
   rintro e w1 ⟨rfl,hd1⟩
   have hL1 := Lg.did HL hd1
   obtain ⟨b0,_,_⟩ := hL1.cells
   have hS := qhp w1 d D1 Z hL1.dk name
   clear hA a0
   go_wp2_with fail
   refine hS.mono ?_
   rintro e w2 ⟨rfl,hd2⟩
   go_wp2
   go_ret
   exact ⟨rfl,hd1.trans hd2⟩
 · rw [if_pos he]
   have he' : ((e1 : Int) != 0) = true := by simp; omega
   have he2 : ((e1 : Int) = 0) = False := eq_false (by omega)
   clear hr hl h hz he
   go_enter Tryz.func111,Tryz.ntmps111
   go_wp2_with fail
   refine hA.mono ?_
   rintro e w1 ⟨rfl,hd1⟩
   clear hA a0
   go_wp2
   go_ret
   exact ⟨rfl,hd1⟩
theorem qhq (name : ByteArray) :
 Calls Tryz.prog 164 #[jptr j, .string name] w fun e w' => e = .returned (.int .i64 (((D.gone name).2 : Nat) : Int)) /\ Did w w' d (D.gone name).1 Z := by
 have hA := qfr w d D Z h.dk name
 obtain ⟨a0,_,_⟩ := h.cells
 unfold Dsk.gone
 generalize D.remove name = r at *
 obtain ⟨D1,e1⟩ := r
 dsimp only at hA ⊢
 by_cases he : e1 = 6
 · subst he
   rw [if_pos rfl]
   clear h
   go_enter Tryz.func164,Tryz.ntmps164
   go_wp2_with fail
   refine hA.mono ?_
   rintro e w1 ⟨rfl,hd1⟩
   go_wp2
   go_ret
   exact ⟨rfl,hd1⟩
 · rw [if_neg he]
   have he2 : ((e1 : Int) = 6) = False := eq_false (by omega)
   have he3 : ((e1 : Int) == 6) = false := by simp [he2]
   clear h he
   go_enter Tryz.func164,Tryz.ntmps164
   go_wp2_with fail
   refine hA.mono ?_
   rintro e w1 ⟨rfl,hd1⟩
   go_wp2
   go_ret
   exact ⟨rfl,hd1⟩
theorem qh3 (A : Option Addr) (cap : Nat) (l : List UInt8) (hl : Lies w A l.length cap l) (hb : l.length <= 2147483647) (hz : 0 < l.length -> ∀ g off,A = some ⟨g,off,none⟩ -> Z g) (hn : nm.size <= 2147483647) :
 Calls Tryz.prog 140 #[jptr j, .slice A l.length cap] w fun e w' => e = .returned (.int .i64 (((D.replaced nm ⟨l.toArray⟩).2 : Nat) : Int)) /\ Did w w' d (D.replaced nm ⟨l.toArray⟩).1 Z := by
 have hG := qhq w j d D nm n Z h (next nm)
 obtain ⟨a0,a1,_⟩ := h.cells
 have hcat : ¬ ((9223372036854775807 : Nat) < nm.size + (⟨#[43]⟩ : ByteArray).size) := by
  have : (⟨#[43]⟩ : ByteArray).size = 1 := rfl
  omega
 have hcat1 : ¬ ((9223372036854775807 : Nat) < nm.size + 1) := by omega
 have hnx : nm ++ ⟨#[43]⟩ = next nm := rfl
 have hlsz : (⟨l.toArray⟩ : ByteArray).size = l.length := rfl
 unfold Dsk.replaced
 generalize D.gone (next nm) = r at *
 obtain ⟨D1,e1⟩ := r
 dsimp only at hG ⊢
 have HL := Lib.hid h
 by_cases he : e1 = 0
 · subst he
   rw [if_neg (by simp)]
   rw [hlsz]
   by_cases h0 : l.length = 0
   · rw [if_pos h0]
     clear hl h hz hlsz
     rw [h0]
     go_enter Tryz.func140,Tryz.ntmps140
     go_wp2_with fail
     refine hG.mono ?_
     rintro e w1 ⟨rfl,hd1⟩
     have hL1 := Lg.did HL hd1
     obtain ⟨b0,b1,_⟩ := hL1.cells
     have hS := qhq w1 j d D1 nm n Z hL1 nm
     clear hG a0 a1
     go_wp2_with fail
     refine hS.mono ?_
     rintro e w2 ⟨rfl,hd2⟩
     go_wp2
     go_ret
     exact ⟨rfl,hd1.trans hd2⟩
   · rw [if_neg h0]
     have hW := fun w1 (hd1 : Did w w1 d D1 Z) => qge w1 j d D1 nm n Z (Lg.did HL hd1) (next nm) A cap l (hl.keeps hd1.2 hz) hb hz
     have hR := fun (D2 : Dsk) w1 (hd1 : Did w w1 d D2 Z) => qfq w1 d D2 Z hd1.1 (next nm) nm
     have hq : ((l.length : Int) = 0) = False := eq_false (by omega)
     have hq3 : ((l.length : Int) == 0) = false := beq_eq_false_iff_ne.2 (by omega)
     generalize D1.wrote (next nm) ⟨l.toArray⟩ = r at *
     obtain ⟨D2,e2⟩ := r
     dsimp only at hW ⊢
     generalize l.length = N at *
     clear hl h hz hlsz
     by_cases he : e2 = 0
     · subst he
       rw [if_neg (by simp)]
       go_enter Tryz.func140,Tryz.ntmps140
       go_wp2_with fail
       refine hG.mono ?_
       rintro e w1 ⟨rfl,hd1⟩
       have hW1 := hW w1 hd1
       clear hG a0 a1 hW
       go_wp2_with fail
       refine hW1.mono ?_
       rintro e w2 ⟨rfl,hd2⟩
       have hd12 := hd1.trans hd2
       have hL2 := Lg.did HL hd12
       obtain ⟨b0,b1,_⟩ := hL2.cells
       have hR2 := fun w3 (hw : Below w2.heap.size w2 w3) => hR D2 w3 (hd12.trans ⟨hd12.1.below hw,qe hw nlq⟩)
       clear hW1 hR
       go_wp2
       go_region_with (go_at_call 68
                       refine (hR2 _ (by first | exact blq | exact blq.drew)).mono ?_
                       rintro e w4 ⟨rfl,hd4⟩)
       all_goals
        go_wp2
        go_ret
        exact ⟨rfl,hd12.trans ⟨hd4.1,⟨hd4.2.os,hd4.2.tape,hd4.2.output,hd4.2.size,hd4.2.block⟩⟩⟩
     · rw [if_pos he]
       have he' : ((e2 : Int) != 0) = true := by simp; omega
       have he2 : ((e2 : Int) = 0) = False := eq_false (by omega)
       clear he
       go_enter Tryz.func140,Tryz.ntmps140
       go_wp2_with fail
       refine hG.mono ?_
       rintro e w1 ⟨rfl,hd1⟩
       have hW1 := hW w1 hd1
       clear hG a0 a1 hW hR
       go_wp2_with fail
       refine hW1.mono ?_
       rintro e w2 ⟨rfl,hd2⟩
       go_wp2
       go_ret
       exact ⟨rfl,hd1.trans hd2⟩
 · rw [if_pos he]
   have he' : ((e1 : Int) != 0) = true := by simp; omega
   have he2 : ((e1 : Int) = 0) = False := eq_false (by omega)
   clear hl h hz he
   go_enter Tryz.func140,Tryz.ntmps140
   go_wp2_with fail
   refine hG.mono ?_
   rintro e w1 ⟨rfl,hd1⟩
   clear hG a0 a1
   go_wp2
   go_ret
   exact ⟨rfl,hd1⟩
end
end Go.Proofs.YtmeoooojmhhahaaGreat
namespace Go.Proofs.YtmeoooojmhhahaaGreat
open Go.RowKit
def Dsk.added (D : Dsk) (name : ByteArray) (ls : List (List UInt8)) : Dsk × Nat := if ls = [] then (D,0) else D.wrote name ⟨(framesL ls).toArray⟩
def cnt (r : Dsk × Nat) (n m : Int) : Int := if r.2 = 0 then m else n
def LDid (w w' : World) (j d : Nat) (D : Dsk) (nm : ByteArray) (n : Int) (Z : Nat -> Prop) : Prop := Lg w' j d D nm n Z /\ qc (fun k => Z k /\ k ≠ j) w w'
theorem qdh {w w1 w' : World} {j d : Nat} {D D' : Dsk} {nm : ByteArray} {n : Int} {Z : Nat -> Prop} (h : Lg w j d D nm n Z) (hb : Below w.heap.size w w1) (hd : Did w1 w' d D' Z) : LDid w w' j d D' nm n Z :=
 ⟨(h.below hb).did hd,(qe hb nlq).trans (hd.2.mono fun k hk => hk.1)⟩
theorem Did.mk' {w w' : World} {d : Nat} {D : Dsk} {Z Y : Nat -> Prop} (h : Did w w' d D (fun k => Z k \/ Y k)) : Did w w' d D Z := ⟨h.1.less fun k hk => .inl hk,h.2.mono fun k hk => .inl hk⟩
theorem LDid.store {w w' : World} {j d : Nat} {D : Dsk} {nm : ByteArray} {n m : Int} {Z : Nat -> Prop} (h : LDid w w' j d D nm n Z) : LDid w (w'.setCell ⟨j,2,none⟩ (.int .i64 m)) j d D nm m Z := by
 refine ⟨⟨?_,?_,h.1.own⟩,h.2.trans (qo _ _ _ fun q => q.2 rfl)⟩
 · exact setCell_at w' ⟨j,2,none⟩ _ _ _ _ rfl h.1.box
 · exact h.1.dk.keep (by simp) fun k hk hz => Below.heap_setCell _ _ _ _ fun e => hz (by have e : k = j := e; rw [e]; exact h.1.own)
section
variable (w : World) (j d : Nat) (D : Dsk) (nm : ByteArray) (n : Int) (Z : Nat → Prop) (h : Lg w j d D nm n Z)
include h
theorem qfQ (A : Option Addr) (len cap : Nat) (ls : List (List UInt8)) (hr : Recs w Z A len cap ls) (hm : len <= 30000) (hf : fit ls) (hn : 0 <= n /\ n <= 1000000000) :
 Calls Tryz.prog 53 #[jptr j, .slice A len cap] w fun e w' => e = .returned (.int .i64 (((D.added nm ls).2 : Nat) : Int)) /\ LDid w w' j d (D.added nm ls).1 nm (cnt (D.added nm ls) n (n + (ls.length : Int))) Z := by
 have hF := qdv Z A len cap ls w hr (by omega) hf
 have hll := hr.1
 have hfl := qa4 ls hf
 have HL := Lib.hid h
 have hold := h.dk.old
 unfold Dsk.added
 by_cases h0 : ls = []
 · subst h0
   obtain rfl : len = 0 := by simpa using hll.symm
   have e0 : framesL [] = [] := rfl
   rw [e0] at hF
   simp only [List.length_nil] at hF
   rw [if_pos rfl]
   clear hfl hll hr h
   go_enter Tryz.func53,Tryz.ntmps53
   go_wp2_with fail
   refine hF.mono ?_
   rintro e w1 ⟨A1,cap1,rfl,_,hb1⟩
   go_wp2
   go_ret
   refine ⟨rfl,?_⟩
   have := qdh HL hb1 (Did.refl (Lg.below HL hb1).dk)
   simpa [cnt] using this
 · rw [if_neg h0]
   have hpos : 0 < (framesL ls).length := by
    cases ls with
    | nil => exact absurd rfl h0
    | cons r t => rw [qa7,List.length_append,qu]; omega
   have hW := fun (w1 : World) (hb : Below w.heap.size w w1) (A1 : Option Addr) (cap1 : Nat) (ho : Owns 5 w1 w.heap.size (.slice A1 (framesL ls).length cap1) (framesL ls)) =>
    qge w1 j d D nm n _ ⟨((Lg.below HL hb).box),(Dk.wide (Lg.dk HL) hb), .inl (Lg.own HL)⟩ nm A1 cap1 (framesL ls) (by
     obtain ⟨A',cap',e,hl,_⟩ := qq ho
     injection e with e1 e2 e3
     subst e1 e3
     exact hl) (by omega) (fun _ g off e => by
      refine .inr (ho.lt g ?_)
      rw [e]; rfl)
   generalize hbb : (⟨(framesL ls).toArray⟩ : ByteArray) = bb at hW ⊢
   generalize D.wrote nm bb = r at *
   obtain ⟨D1,e1⟩ := r
   dsimp only at hW ⊢
   obtain ⟨N,hN⟩ : ∃ N,(framesL ls).length = N := ⟨_,rfl⟩
   rw [hN] at hF hW hpos hfl
   have hq3 : ((N : Int) == 0) = false := beq_eq_false_iff_ne.2 (by omega)
   have hq4 : ((N : Int) = 0) = False := eq_false (by omega)
   rw [hll] at hfl ⊢
   have e5 : IntKind.i64.wrap (n + (len : Int)) = n + (len : Int) := IntWalk.i64_in _ (by omega)
   clear hfl hll hr h hN hpos hbb h0 hm hf
   by_cases he : e1 = 0
   · subst he
     have hc : cnt (D1,0) n (n + (len : Int)) = n + (len : Int) := if_pos rfl
     rw [hc]
     clear hc
     go_enter Tryz.func53,Tryz.ntmps53
     go_wp2_with fail
     refine hF.mono ?_
     rintro e w1 ⟨A1,cap1,rfl,ho1,hb1⟩
     have hW1 := hW w1 hb1 A1 cap1 ho1
     obtain ⟨b0,b1,_⟩ := (Lg.below HL hb1).cells
     clear hF hW
     go_wp2_with fail
     refine hW1.mono ?_
     rintro e w2 ⟨rfl,hd2⟩
     have hL2 := qdh HL hb1 (Did.mk' hd2)
     obtain ⟨c0,c1,c2⟩ := hL2.1.cells
     have c2f : w2.frozen? ⟨j,2,none⟩ = false := (row3 hL2.1.box).2.2.2
     have HL2 := Lib.hid hL2
     clear hW1 hL2 hd2 ho1 b0 b1 hb1
     go_wp2
     go_ret
     exact ⟨rfl,LDid.store HL2⟩
   · have hc : cnt (D1,e1) n (n + (len : Int)) = n := if_neg he
     rw [hc]
     have he' : ((e1 : Int) != 0) = true := by simp; omega
     have he2 : ((e1 : Int) = 0) = False := eq_false (by omega)
     clear hc he
     go_enter Tryz.func53,Tryz.ntmps53
     go_wp2_with fail
     refine hF.mono ?_
     rintro e w1 ⟨A1,cap1,rfl,ho1,hb1⟩
     have hW1 := hW w1 hb1 A1 cap1 ho1
     obtain ⟨b0,b1,_⟩ := (Lg.below HL hb1).cells
     clear hF hW
     go_wp2_with fail
     refine hW1.mono ?_
     rintro e w2 ⟨rfl,hd2⟩
     have hL2 := qdh HL hb1 (Did.mk' hd2)
     clear hW1 hd2 ho1 b0 b1 hb1
     go_wp2
     go_ret
     exact ⟨rfl,hL2⟩
theorem qkf (A : Option Addr) (len cap : Nat) (ls : List (List UInt8)) (hr : Recs w Z A len cap ls) (hm : len <= 30000) (hf : fit ls) (hnm : nm.size <= 2147483647) :
 Calls Tryz.prog 94 #[jptr j, .slice A len cap] w fun e w' => e = .returned (.int .i64 (((D.replaced nm ⟨(framesL ls).toArray⟩).2 : Nat) : Int)) /\ LDid w w' j d (D.replaced nm ⟨(framesL ls).toArray⟩).1 nm (cnt (D.replaced nm ⟨(framesL ls).toArray⟩) n (ls.length : Int)) Z := by
 have hF := qdv Z A len cap ls w hr (by omega) hf
 have hll := hr.1
 have hfl := qa4 ls hf
 have HL := Lib.hid h
 have hW := fun (w1 : World) (hb : Below w.heap.size w w1) (A1 : Option Addr) (cap1 : Nat) (ho : Owns 5 w1 w.heap.size (.slice A1 (framesL ls).length cap1) (framesL ls)) =>
  qh3 w1 j d D nm n _ ⟨((Lg.below HL hb).box),(Dk.wide (Lg.dk HL) hb), .inl (Lg.own HL)⟩ A1 cap1 (framesL ls) (by
   obtain ⟨A',cap',e,hl,_⟩ := qq ho
   injection e with e1 e2 e3
   subst e1 e3
   exact hl) (by omega) (fun _ g off e => by
    refine .inr (ho.lt g ?_)
    rw [e]; rfl) hnm
 generalize hbb : (⟨(framesL ls).toArray⟩ : ByteArray) = bb at hW ⊢
 generalize D.replaced nm bb = r at *
 obtain ⟨D1,e1⟩ := r
 dsimp only at hW ⊢
 obtain ⟨N,hN⟩ : ∃ N,(framesL ls).length = N := ⟨_,rfl⟩
 rw [hN] at hF hW hfl
 rw [hll] at hfl ⊢
 clear hfl hll hr h hN hbb hm hf
 by_cases he : e1 = 0
 · subst he
   have hc : cnt (D1,0) n (len : Int) = (len : Int) := if_pos rfl
   rw [hc]
   clear hc
   go_enter Tryz.func94,Tryz.ntmps94
   go_wp2_with fail
   refine hF.mono ?_
   rintro e w1 ⟨A1,cap1,rfl,ho1,hb1⟩
   have hW1 := hW w1 hb1 A1 cap1 ho1
   clear hF hW
   go_wp2_with fail
   refine hW1.mono ?_
   rintro e w2 ⟨rfl,hd2⟩
   have hL2 := qdh HL hb1 (Did.mk' hd2)
   obtain ⟨c0,c1,c2⟩ := hL2.1.cells
   have c2f : w2.frozen? ⟨j,2,none⟩ = false := (row3 hL2.1.box).2.2.2
   have HL2 := Lib.hid hL2
   clear hW1 hL2 hd2 ho1 hb1
   go_wp2
   go_ret
   exact ⟨rfl,LDid.store HL2⟩
 · have hc : cnt (D1,e1) n (len : Int) = n := if_neg he
   rw [hc]
   have he' : ((e1 : Int) != 0) = true := by simp; omega
   have he2 : ((e1 : Int) = 0) = False := eq_false (by omega)
   clear hc he
   go_enter Tryz.func94,Tryz.ntmps94
   go_wp2_with fail
   refine hF.mono ?_
   rintro e w1 ⟨A1,cap1,rfl,ho1,hb1⟩
   have hW1 := hW w1 hb1 A1 cap1 ho1
   clear hF hW
   go_wp2_with fail
   refine hW1.mono ?_
   rintro e w2 ⟨rfl,hd2⟩
   have hL2 := qdh HL hb1 (Did.mk' hd2)
   clear hW1 hd2 ho1 hb1
   go_wp2
   go_ret
   exact ⟨rfl,hL2⟩
end
end Go.Proofs.YtmeoooojmhhahaaGreat
namespace Go.Proofs.YtmeoooojmhhahaaGreat
open Go.RowKit
def Dsk.told (D : Dsk) (name : ByteArray) : List (List UInt8) × Nat := qv (D.read name).1.data.toList
def Dsk.trim (D : Dsk) (name : ByteArray) : Dsk := if (D.told name).2 < (D.read name).1.size then (D.cut name ((D.told name).2 : Int)).1 else D
def qhr (w w' : World) (d : Nat) (D : Dsk) (name : ByteArray) (Z : Nat -> Prop) (e : Ending) (ls : List (List UInt8)) : Prop :=
 ∃ j A cap Z',e = .returned (.tuple #[jptr j, .slice A ls.length cap, .int .i64 0]) /\ Lg w' j d D name (ls.length : Int) Z' /\ Recs w' Z' A ls.length cap ls /\ (∀ k,Z k -> Z' k) /\ (∀ k,Z k -> k ≠ j) /\ qc Z w w'
theorem qgf {w w2 w3 : World} {d : Nat} {D D' : Dsk} {name : ByteArray} {Z : Nat -> Prop} {A : Option Addr} {cap : Nat} {ls : List (List UInt8)} {fr : Nat × Nat} (h : Dk w d D Z) (hb : Below w.heap.size w w2) (hr : Recs w2 (w.heap.size <= ·) A ls.length cap ls) (hd : Did w2 w3 d D' (fun k => Z k \/ w.heap.size <= k /\ k < w2.heap.size)) :
 qhr w (w3.alloc (.cells #[dptr d, .string name, .int .i64 (ls.length : Int)] 166)) d D' name Z (.returned (.tuple #[jptr w3.heap.size, .slice A ls.length cap, .int .i64 0])) ls := by
 have hb3 : Below w3.heap.size w3 (w3.alloc (.cells #[dptr d, .string name, .int .i64 (ls.length : Int)] 166)) := blq.alloc nlq _
 have hr3 : Recs w3 (fun k => Z k \/ w.heap.size <= k /\ k < w2.heap.size) A ls.length cap ls := by
  have : Recs w2 (fun k => Z k \/ w.heap.size <= k /\ k < w2.heap.size) A ls.length cap ls := by
   refine ⟨hr.1,hr.2.1,hr.2.2.1,fun h0 => ?_⟩
   obtain ⟨g,off,e,hg,hz,hc⟩ := hr.2.2.2 h0
   refine ⟨g,off,e,hg, .inr ⟨hz,hg⟩,fun i hi => ?_⟩
   obtain ⟨v,hv,E,c,ev,hc,hl,hz2⟩ := hc i hi
   refine ⟨v,hv,E,c,ev,hc,hl,fun h1 g2 off2 e2 => .inr ⟨hz2 h1 g2 off2 e2,?_⟩⟩
   obtain ⟨g3,off3,e3,hg3,_⟩ := hl.2.2.2 h1
   rw [e2] at e3
   injection e3 with e3
   injection e3 with e3 _
   omega
  exact this.keeps hd.2 fun k hk => hk
 refine ⟨w3.heap.size,A,cap,_,rfl,⟨heap_alloc_new _ _,hd.1.wide hb3, .inr ⟨nlq,by simp⟩⟩,(hr3.below hb3 nlq).mono fun k hk => .inl hk,fun k hk => .inl (.inl hk),fun k hk e => ?_,?_⟩
 · have := h.old k hk
   have := hb.size
   have := hd.2.size
   omega
 · exact (qe hb nlq).trans ((hd.2.mono fun k hk => .inl hk).trans (qe hb3 nlq))
theorem qhs (w : World) (d : Nat) (D : Dsk) (Z : Nat -> Prop) (h : Dk w d D Z) (name : ByteArray) (hn : name.size <= 11) (hR : (D.read name).2 = 0 \/ (D.read name).2 = 6) (hC : (D.told name).2 < (D.read name).1.size -> (D.cut name ((D.told name).2 : Int)).2 = 0) :
 Calls Tryz.prog 38 #[dptr d, .string name] w fun e w' => qhr w w' d (D.trim name) name Z e (D.told name).1 := by
 have hA := qdy w d D Z h name
 have hn11 : ((11 : Int) < (name.size : Int)) = False := eq_false (by omega)
 have hsz : (D.read name).1.size <= 1048576 := by
  have h1 := h.good.usedN
  have h2 := qaF D.l name
  have h3 := qaT D.l name
  unfold Dsk.read
  split
  · exact Nat.zero_le _
  · split
    · exact Nat.zero_le _
    · dsimp only; omega
 have hend := qcG (D.read name).1.data.toList
 have hlen : (D.read name).1.data.toList.length = (D.read name).1.size := qcI _
 unfold Dsk.trim at *
 unfold Dsk.told at *
 have hcut := fun w2 (hw : Dk w2 d D (fun k => Z k \/ w.heap.size <= k /\ k < w2.heap.size)) => qiw w2 d D _ hw name ((qv (D.read name).1.data.toList).2 : Int) (by omega)
 generalize hre : D.read name = r at *
 obtain ⟨bb,er⟩ := r
 dsimp only at *
 generalize hL : bb.data.toList = L at *
 have hScan := fun A cap w1 (hl : Lies w1 A bb.size cap L) => qeW A bb.size cap L w1 hl (by omega)
 unfold qdx at hScan
 generalize qv L = sc at *
 obtain ⟨ls,en⟩ := sc
 dsimp only at *
 have HD := Lib.hid h
 have her2 : ((er : Int) != 0 && (er : Int) != 6) = false := by
  rcases hR with rfl | rfl <;> rfl
 by_cases hlt : en < bb.size
 · rw [if_pos hlt]
   have hc0 := hC hlt
   generalize D.cut name (en : Int) = rc at *
   obtain ⟨Dc,ec⟩ := rc
   dsimp only at *
   subst hc0
   have hlt' : (en : Int) < (bb.size : Int) := by omega
   clear hre hL hlen hend hC h hlt hsz hn
   rcases hR with rfl | rfl
   all_goals
    go_enter Tryz.func38,Tryz.ntmps38
    go_wp2_with fail
    refine hA.mono ?_
    rintro e w1 ⟨A1,cap1,rfl,hl1,hb1⟩
    have hS := hScan A1 cap1 w1 hl1
    clear hA hl1
    go_wp2_with fail
    refine hS.mono ?_
    rintro e w2 ⟨A2,cap2,rfl,hr2,hb2⟩
    have hb12 : Below w.heap.size w w2 := hb1.trans (hb2.mono hb1.size)
    have hr2' := hr2.mono (Z' := (w.heap.size <= ·)) fun k hk => Nat.le_trans hb1.size hk
    have hK := hcut w2 (Dk.wide HD hb12)
    clear hS hcut hScan hr2 hb2 hb1
    go_wp2_with fail
    refine hK.mono ?_
    rintro e w3 ⟨rfl,hd3⟩
    have HO := Lib.hid (qgf (name := name) (fr := (0,0)) HD hb12 hr2' hd3)
    clear hK hd3 hr2' hb12
    go_wp2
    refine bodyPost_ret (results_tmp3 rfl _ _ _) rfl ?_
    exact HO
 · rw [if_neg hlt]
   have hlt' : ((en : Int) < (bb.size : Int)) = False := eq_false (by omega)
   clear hre hL hlen hend hC h hlt hsz hn hcut
   rcases hR with rfl | rfl
   all_goals
    go_enter Tryz.func38,Tryz.ntmps38
    go_wp2_with fail
    refine hA.mono ?_
    rintro e w1 ⟨A1,cap1,rfl,hl1,hb1⟩
    have hS := hScan A1 cap1 w1 hl1
    clear hA hl1
    go_wp2_with fail
    refine hS.mono ?_
    rintro e w2 ⟨A2,cap2,rfl,hr2,hb2⟩
    have hb12 : Below w.heap.size w w2 := hb1.trans (hb2.mono hb1.size)
    have hr2' := hr2.mono (Z' := (w.heap.size <= ·)) fun k hk => Nat.le_trans hb1.size hk
    have HO := Lib.hid (qgf (name := name) (fr := (0,0)) HD hb12 hr2' (Did.refl (Dk.wide HD hb12)))
    clear hS hScan hr2 hb2 hb1 hr2' hb12
    go_wp2
    refine bodyPost_ret (results_tmp3 rfl _ _ _) rfl ?_
    exact HO
end Go.Proofs.YtmeoooojmhhahaaGreat
