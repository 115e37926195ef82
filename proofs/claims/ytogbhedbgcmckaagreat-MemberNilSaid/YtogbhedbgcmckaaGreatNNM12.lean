/- Add, Reset, Len of the program's log, each by its contract. -/
import Derived.Test.YtogbhedbgcmckaaGreatNNM01
import Derived.Test.YtogbhedbgcmckaaGreatNNM11
import Derived.Test.YtogbhedbgcmckaaGreatNNM10
import Derived.Lib.Hide
import Derived.Test.YtogbhedbgcmckaaGreatNNM02
set_option linter.unusedVariables false
set_option linter.unusedSimpArgs false
set_option maxRecDepth 100000
set_option maxHeartbeats 200000
namespace Go.Proofs.YtogbhedbgcmckaaGreat
open Go.RowKit
def Dsk.added (D : Dsk) (name : ByteArray) (ls : List (List UInt8)) : Dsk × Nat := if ls = [] then (D,0) else D.wrote name ⟨(framesL ls).toArray⟩
def cnt (r : Dsk × Nat) (n m : Int) : Int := if r.2 = 0 then m else n
def LDid (w w' : World) (j d : Nat) (D : Dsk) (nm : ByteArray) (n : Int) (Z : Nat -> Prop) : Prop := Lg w' j d D nm n Z /\ qa (fun k => Z k /\ k ≠ j) w w'
theorem qca {w w1 w' : World} {j d : Nat} {D D' : Dsk} {nm : ByteArray} {n : Int} {Z : Nat -> Prop} (h : Lg w j d D nm n Z) (hb : Below w.heap.size w w1) (hd : Did w1 w' d D' Z) : LDid w w' j d D' nm n Z :=
 ⟨(h.below hb).did hd,(qb hb (Nat.le_refl _)).trans (hd.2.mono fun k hk => hk.1)⟩
theorem Did.mk' {w w' : World} {d : Nat} {D : Dsk} {Z Y : Nat -> Prop} (h : Did w w' d D (fun k => Z k \/ Y k)) : Did w w' d D Z := ⟨h.1.less fun k hk => .inl hk,h.2.mono fun k hk => .inl hk⟩
theorem LDid.store {w w' : World} {j d : Nat} {D : Dsk} {nm : ByteArray} {n m : Int} {Z : Nat -> Prop} (h : LDid w w' j d D nm n Z) : LDid w (w'.setCell ⟨j,2,none⟩ (.int .i64 m)) j d D nm m Z := by
 refine ⟨⟨?_,?_,h.1.own⟩,h.2.trans (qg _ _ _ fun q => q.2 rfl)⟩
 · exact setCell_at w' ⟨j,2,none⟩ _ _ _ _ rfl h.1.box
 · exact h.1.dk.keep (by simp) fun k hk hz => Below.heap_setCell _ _ _ _ fun e => hz (by have e : k = j := e; rw [e]; exact h.1.own)
section
variable (w : World) (j d : Nat) (D : Dsk) (nm : ByteArray) (n : Int) (Z : Nat → Prop) (h : Lg w j d D nm n Z)
include h
theorem qd0 (A : Option Addr) (len cap : Nat) (ls : List (List UInt8)) (hr : Recs w Z A len cap ls) (hm : len <= 30000) (hf : fit ls) (hn : 0 <= n /\ n <= 1000000000) :
 Calls Tryz.prog 129 #[jptr j, .slice A len cap] w fun e w' => e = .returned (.int .i64 (((D.added nm ls).2 : Nat) : Int)) /\ LDid w w' j d (D.added nm ls).1 nm (cnt (D.added nm ls) n (n + (ls.length : Int))) Z := by
 have hF := qdH Z A len cap ls w hr (by omega) hf;have hll := hr.1;have hfl := qaz ls hf;have HL := Lib.hid h;have hold := h.dk.old;unfold Dsk.added
 by_cases h0 : ls = []
 · subst h0
   obtain rfl : len = 0 := by simpa using hll.symm
   have e0 : framesL [] = [] := rfl;rw [e0] at hF;simp only [List.length_nil] at hF;rw [if_pos rfl];clear hfl hll hr h
   go_enter Tryz.func129,Tryz.ntmps129
   go_wp2_with fail
   refine hF.mono ?_;rintro e w1 ⟨A1,cap1,rfl,_,hb1⟩;go_wp2;go_ret;refine ⟨rfl,?_⟩;have := qca HL hb1 (Did.refl (Lg.below HL hb1).dk)
   simpa [cnt] using this
 · rw [if_neg h0]
   have hpos : 0 < (framesL ls).length := by
    cases ls with
    | nil => exact absurd rfl h0
    | cons r t => rw [qbF,List.length_append,qG]; omega
   have hW := fun (w1 : World) (hb : Below w.heap.size w w1) (A1 : Option Addr) (cap1 : Nat) (ho : Owns 5 w1 w.heap.size (.slice A1 (framesL ls).length cap1) (framesL ls)) =>
    qej w1 j d D nm n _ ⟨((Lg.below HL hb).box),(Dk.wide (Lg.dk HL) hb), .inl (Lg.own HL)⟩ nm A1 cap1 (framesL ls) (by
     obtain ⟨A',cap',e,hl,_⟩ := qp ho;injection e with e1 e2 e3;subst e1 e3
     exact hl) (by omega) (fun _ g off e => by
      refine .inr (ho.lt g ?_)
      rw [e]; rfl)
   generalize hbb : (⟨(framesL ls).toArray⟩ : ByteArray) = bb at hW ⊢;generalize D.wrote nm bb = r at *;obtain ⟨D1,e1⟩ := r;dsimp only at hW ⊢;obtain ⟨N,hN⟩ := exq ((framesL ls).length);rw [hN] at hF hW hpos hfl;have hq3 : ((N : Int) == 0) = false := beq_eq_false_iff_ne.2 (by omega);have hq4 : ((N : Int) = 0) = False := eq_false (by omega);rw [hll] at hfl ⊢;have e5 : IntKind.i64.wrap (n + (len : Int)) = n + (len : Int) := IntWalk.i64_in _ (by omega);clear hfl hll hr h hN hpos hbb h0 hm hf
   by_cases he : e1 = 0
   · subst he;have hc : cnt (D1,0) n (n + (len : Int)) = n + (len : Int) := if_pos rfl;rw [hc];clear hc
     go_enter Tryz.func129,Tryz.ntmps129
     go_wp2_with fail
     refine hF.mono ?_;rintro e w1 ⟨A1,cap1,rfl,ho1,hb1⟩;have hW1 := hW w1 hb1 A1 cap1 ho1;obtain ⟨b0,b1,_⟩ := (Lg.below HL hb1).cells;clear hF hW
     go_wp2_with fail
     refine hW1.mono ?_;rintro e w2 ⟨rfl,hd2⟩;have hL2 := qca HL hb1 (Did.mk' hd2);obtain ⟨c0,c1,c2⟩ := hL2.1.cells;have c2f : w2.frozen? ⟨j,2,none⟩ = false := (row3 hL2.1.box).2.2.2;have HL2 := Lib.hid hL2;clear hW1 hL2 hd2 ho1 b0 b1 hb1;go_wp2;go_ret;exact ⟨rfl,LDid.store HL2⟩
   · have hc : cnt (D1,e1) n (n + (len : Int)) = n := if_neg he;rw [hc]
     have he' : ((e1 : Int) != 0) = true := by simp; omega
     have he2 : ((e1 : Int) = 0) = False := eq_false (by omega);clear hc he
     go_enter Tryz.func129,Tryz.ntmps129
     go_wp2_with fail
     refine hF.mono ?_;rintro e w1 ⟨A1,cap1,rfl,ho1,hb1⟩;have hW1 := hW w1 hb1 A1 cap1 ho1;obtain ⟨b0,b1,_⟩ := (Lg.below HL hb1).cells;clear hF hW
     go_wp2_with fail
     refine hW1.mono ?_;rintro e w2 ⟨rfl,hd2⟩;have hL2 := qca HL hb1 (Did.mk' hd2);clear hW1 hd2 ho1 b0 b1 hb1;go_wp2;go_ret;exact ⟨rfl,hL2⟩
theorem qiw (A : Option Addr) (len cap : Nat) (ls : List (List UInt8)) (hr : Recs w Z A len cap ls) (hm : len <= 30000) (hf : fit ls) (hnm : nm.size <= 2147483647) :
 Calls Tryz.prog 111 #[jptr j, .slice A len cap] w fun e w' => e = .returned (.int .i64 (((D.replaced nm ⟨(framesL ls).toArray⟩).2 : Nat) : Int)) /\ LDid w w' j d (D.replaced nm ⟨(framesL ls).toArray⟩).1 nm (cnt (D.replaced nm ⟨(framesL ls).toArray⟩) n (ls.length : Int)) Z := by
 have hF := qdH Z A len cap ls w hr (by omega) hf;have hll := hr.1;have hfl := qaz ls hf;have HL := Lib.hid h
 have hW := fun (w1 : World) (hb : Below w.heap.size w w1) (A1 : Option Addr) (cap1 : Nat) (ho : Owns 5 w1 w.heap.size (.slice A1 (framesL ls).length cap1) (framesL ls)) =>
  qgk w1 j d D nm n _ ⟨((Lg.below HL hb).box),(Dk.wide (Lg.dk HL) hb), .inl (Lg.own HL)⟩ A1 cap1 (framesL ls) (by
   obtain ⟨A',cap',e,hl,_⟩ := qp ho;injection e with e1 e2 e3;subst e1 e3
   exact hl) (by omega) (fun _ g off e => by
    refine .inr (ho.lt g ?_)
    rw [e]; rfl) hnm
 generalize hbb : (⟨(framesL ls).toArray⟩ : ByteArray) = bb at hW ⊢;generalize D.replaced nm bb = r at *;obtain ⟨D1,e1⟩ := r;dsimp only at hW ⊢;obtain ⟨N,hN⟩ := exq ((framesL ls).length);rw [hN] at hF hW hfl;rw [hll] at hfl ⊢;clear hfl hll hr h hN hbb hm hf
 by_cases he : e1 = 0
 · subst he;have hc : cnt (D1,0) n (len : Int) = (len : Int) := if_pos rfl;rw [hc];clear hc
   go_enter Tryz.func111,Tryz.ntmps111
   go_wp2_with fail
   refine hF.mono ?_;rintro e w1 ⟨A1,cap1,rfl,ho1,hb1⟩;have hW1 := hW w1 hb1 A1 cap1 ho1;clear hF hW
   go_wp2_with fail
   refine hW1.mono ?_;rintro e w2 ⟨rfl,hd2⟩;have hL2 := qca HL hb1 (Did.mk' hd2);obtain ⟨c0,c1,c2⟩ := hL2.1.cells;have c2f : w2.frozen? ⟨j,2,none⟩ = false := (row3 hL2.1.box).2.2.2;have HL2 := Lib.hid hL2;clear hW1 hL2 hd2 ho1 hb1;go_wp2;go_ret;exact ⟨rfl,LDid.store HL2⟩
 · have hc : cnt (D1,e1) n (len : Int) = n := if_neg he;rw [hc]
   have he' : ((e1 : Int) != 0) = true := by simp; omega
   have he2 : ((e1 : Int) = 0) = False := eq_false (by omega);clear hc he
   go_enter Tryz.func111,Tryz.ntmps111
   go_wp2_with fail
   refine hF.mono ?_;rintro e w1 ⟨A1,cap1,rfl,ho1,hb1⟩;have hW1 := hW w1 hb1 A1 cap1 ho1;clear hF hW
   go_wp2_with fail
   refine hW1.mono ?_;rintro e w2 ⟨rfl,hd2⟩;have hL2 := qca HL hb1 (Did.mk' hd2);clear hW1 hd2 ho1 hb1;go_wp2;go_ret;exact ⟨rfl,hL2⟩
end
end Go.Proofs.YtogbhedbgcmckaaGreat
set_option linter.unusedVariables false
set_option linter.unusedSimpArgs false
set_option maxRecDepth 100000
set_option maxHeartbeats 200000
namespace Go.Proofs.YtogbhedbgcmckaaGreat
theorem qbU (v : Nat) (b : UInt8) (n : Nat) : wide (v * 256 + b.toNat) (n + 1) = wide v n ++ [b] := by
 have hb : b.toNat < 256 := b.toNat_lt
 induction n with
 | zero =>
   simp only [wide,Nat.pow_zero,Nat.div_one,List.nil_append,List.cons.injEq,and_true]
   apply UInt8.toNat_inj.1
   simp
 | succ n ih =>
   rw [wide,ih,wide,List.cons_append]
   congr 2
   rw [Nat.pow_succ',<- Nat.div_div_eq_div_mul]
   congr 1
   omega
theorem qek (l : List UInt8) (h : l.length = 4) : wide (num l) 4 = l := by
 match l,h with
 | [a,b,c,d],_ =>
   have e : num [a,b,c,d] = (((0 * 256 + a.toNat) * 256 + b.toNat) * 256 + c.toNat) * 256 + d.toNat := rfl;rw [e,qbU,qbU,qbU,qbU]
   rfl
theorem qel (l : List UInt8) (n : Nat) (hn : num (l.take 4) = n) (h : 60000 < n \/ l.length < 8 + n) : qO l = none := by
 unfold qO
 split
 · rfl
 · rw [if_pos (by rw [hn]; omega)]
theorem qfs (l : List UInt8) (h : l.length < 8) : qO l = none := by
 unfold qO;rw [if_pos h]
theorem qjV (l : List UInt8) (n : Nat) (hn : num (l.take 4) = n) (h6 : n <= 60000) (h8 : 8 + n <= l.length) :
 qO l = if num ((l.drop 4).take 4) = moreN (moreN 0 (l.take 4)) ((l.drop 8).take n) then some ((l.drop 8).take n) else none := by
 unfold qO;rw [if_neg (by omega),hn,if_neg (by omega)]
 have hr : ((l.drop 8).take n).length = n := by simp; omega
 have e4 : (l.take 4).length = 4 := by simp; omega
 have e44 : ((l.drop 4).take 4).length = 4 := by simp; omega
 have ew : wide n 4 = l.take 4 := by rw [<- hn]; exact qek _ e4
 have et : l.take (8 + n) = l.take 4 ++ ((l.drop 4).take 4 ++ (l.drop 8).take n) := by
  rw [show 8 + n = 4 + (4 + n) by omega,List.take_add,List.take_add,List.drop_drop]
 have es : sumL ((l.drop 8).take n) = moreN (moreN 0 (l.take 4)) ((l.drop 8).take n) := by unfold sumL; rw [hr,ew]
 have ef : qae ((l.drop 8).take n) = l.take 4 ++ (wide (sumL ((l.drop 8).take n)) 4 ++ (l.drop 8).take n) := by unfold qae; rw [hr,ew]
 have hiff : (qae ((l.drop 8).take n) = l.take (8 + n)) ↔ num ((l.drop 4).take 4) = moreN (moreN 0 (l.take 4)) ((l.drop 8).take n) := by
  rw [ef,et,<- es]
  constructor
  · intro h;have h2 := List.append_cancel_left h;have h3 := (List.append_inj h2 (by simp [e44])).1;rw [<- h3,qjr];have := qkH ((l.drop 8).take n);omega
  · intro h;rw [<- h,qek _ e44]
 by_cases h : qae ((l.drop 8).take n) = l.take (8 + n)
 · rw [if_pos h,if_pos (hiff.1 h)]
 · rw [if_neg h,if_neg (fun e => h (hiff.2 e))]
end Go.Proofs.YtogbhedbgcmckaaGreat
set_option linter.unusedVariables false
set_option linter.unusedSimpArgs false
set_option maxRecDepth 100000
set_option maxHeartbeats 2000000
namespace Go.Proofs.YtogbhedbgcmckaaGreat
open Go.RowKit
theorem qdI {P : Program} {t e : TypeId} (ht : P.underlying t = some (.slice e)) (hz : ∀ w,(Go.sizeOf e).run P w = .ok 1 w) (kd : IntKind) (A : Option Addr) (len cap n : Nat) (hn : n <= cap) (W : World) :
 (Instr.slice t (.slice A len cap) none (some (.int kd (n : Int))) none).run P W = .ok (.slice A n cap) W := by
 have ht' : P.underlying t = some (.slice (P.elem t)) := by simp [Program.elem,ht]
 have he : P.elem t = e := by simp [Program.elem,ht]
 rw [run_slice_h W t _ _ _ ht' kd _ (by omega) (by omega),he,hz]
 cases A <;> simp [Result.andThen,sliced,Addr.add]
theorem qkI {P : Program} {t e : TypeId} (ht : P.underlying t = some (.slice e)) (hz : ∀ w,(Go.sizeOf e).run P w = .ok 1 w) (A : Option Addr) (len cap a b : Nat) (h1 : a <= b) (h2 : b <= cap) (W : World) :
 (Instr.slice t (.slice A len cap) (some (.int .i64 (a : Int))) (some (.int .i64 (b : Int))) none).run P W = .ok (.slice (qK A cap a) (b - a) (cap - a)) W := by
 have ht' : P.underlying t = some (.slice (P.elem t)) := by simp [Program.elem,ht]
 have he : P.elem t = e := by simp [Program.elem,ht]
 rw [run_slice_lh W t _ _ _ ht' .i64 .i64 _ _ (by omega) (by omega) (by omega),he,hz]
 cases A <;> simp [Result.andThen,sliced,qK] <;> (split <;> simp_all)
theorem qhp {A : Option Addr} {cap n : Nat} {a : Addr} (h : qK A cap n = some a) : ∃ b,A = some b /\ b.block = a.block := by
 unfold qK at h
 split at h
 · exact ⟨a,h,rfl⟩
 · cases A with
   | none => cases h
   | some b =>
     injection h with h;subst h;refine ⟨b,rfl,?_⟩;unfold Addr.add
     split <;> rfl
def qft (l : List UInt8) (A : Option Addr) (w : World) (e : Ending) : Prop :=
 (qO l = none /\ e = .returned (.tuple #[.slice none 0 0, .bool false])) ∨
 ∃ r B c,qO l = some r /\ e = .returned (.tuple #[.slice B r.length c, .bool true]) /\ Lies w B r.length c r /\ ∀ b,B = some b -> ∃ a,A = some a /\ a.block = b.block
theorem qft.no {l : List UInt8} {A : Option Addr} {w : World} (h : qO l = none) : qft l A w (.returned (.tuple #[.slice none 0 0, .bool false])) := .inl ⟨h,rfl⟩
theorem qfu (A : Option Addr) (len cap : Nat) (l : List UInt8) (w : World) (hl : Lies w A len cap l) (hm : len <= 1000000000) :
 Calls Tryz.prog 146 #[.slice A len cap] w fun e w' => qft l A w' e /\ Below w.heap.size w w' := by
 have hll := hl.1;have hlc := hl.2.1
 by_cases h8 : len < 8
 · have HE := Lib.hid (qfs l (by omega));clear hl
   go_enter Tryz.func146,Tryz.ntmps146
   go_wp2;refine bodyPost_ret (results_tmp2 rfl _ _ _) rfl ?_;exact ⟨.no HE,by first | exact Below.refl _ _ | exact below_drewN (Below.refl _ _) _⟩
 · obtain ⟨m,hm8⟩ : ∃ m,len = 8 + m := ⟨len - 8,by omega⟩;obtain ⟨c8,hc8⟩ : ∃ c,cap = 8 + c := ⟨cap - 8,by omega⟩;obtain ⟨c4,hc4⟩ : ∃ c,cap = 4 + c := ⟨cap - 4,by omega⟩;have hl4 := hl.take 4 (by omega);have hl8 := hl.drop 8 (by omega);have hl44 := (hl.drop 4 (by omega)).take 4 (by omega)
   have s1 := fun W => qdI (P := Tryz.prog) Tryz.underlying23 qar .i64 A len cap 4 (by omega) W
   have s2 := fun W => qcf (P := Tryz.prog) Tryz.underlying23 qar A len cap 8 (by omega) (by omega) W
   have s3 := fun W => qkI (P := Tryz.prog) Tryz.underlying23 qar A len cap 4 8 (by omega) (by omega) W
   have hA8 : ∀ b,qK A cap 8 = some b -> ∃ a,A = some a /\ a.block = b.block := fun b h => qhp h
   rw [show len - 8 = m by omega,show cap - 8 = c8 by omega] at s2 hl8;rw [show cap - 4 = c4 by omega] at s3 hl44;have e84 : (8 : Nat) - 4 = 4 := rfl;rw [e84] at s3;generalize qK A cap 8 = A8 at s2 hl8 hA8;generalize qK A cap 4 = A4 at s3 hl44;change ∀ W,(Instr.slice 23 (.slice A len cap) none (some (.int .i64 4)) none).run Tryz.prog W = .ok (.slice A 4 cap) W at s1;change ∀ W,(Instr.slice 23 (.slice A len cap) (some (.int .i64 8)) none none).run Tryz.prog W = .ok (.slice A8 m c8) W at s2;change ∀ W,(Instr.slice 23 (.slice A len cap) (some (.int .i64 4)) (some (.int .i64 8)) none).run Tryz.prog W = .ok (.slice A4 4 c4) W at s3;have hd8 : ((len : Int) < 8) = False := eq_false (by omega)
   have hN1 := fun nq => qde A 4 _ _ (w.drewN nq) (hl4.below (below_drewN (Below.refl w.heap.size w) nq) (Nat.le_refl _)) (by omega)
   have hN2 := fun nq => qde A4 4 _ _ (w.drewN nq) (hl44.below (below_drewN (Below.refl w.heap.size w) nq) (Nat.le_refl _)) (by omega)
   obtain ⟨n,hn⟩ : ∃ n,Hid (num (l.take 4) = n) := ⟨_,⟨rfl⟩⟩;rw [hn.out] at hN1
   have hnlt : n < 4294967296 := by
    have := qdB (l.take 4);have e : (l.take 4).length = 4 := hl4.1;rw [e,hn.out] at this;exact this
   have hnlt' : (n : Int) < 4294967296 := by omega
   clear e84
   by_cases h6 : 60000 < n
   · have h6' : (60000 : Int) < (n : Int) := by omega
     have HE := Lib.hid (qel l n hn.out (.inl h6));clear hl hl4 hl8 hl44 hA8 hn hN2 s3 hm8 hc8 hc4 h8 hll hlc hm hnlt h6
     go_enter Tryz.func146,Tryz.ntmps146
     go_wp2
     go_quiet (fail)
     go_wp2_with (first | (go_at_call 181; refine (hN1 _).mono ?_; rintro e w1 ⟨rfl,rfl⟩) | fail)
     refine bodyPost_ret (results_tmp2 rfl _ _ _) rfl ?_;exact ⟨.no HE,by first | exact Below.refl _ _ | exact below_drewN (Below.refl _ _) _⟩
   · have h6' : ((60000 : Int) < (n : Int)) = False := eq_false (by omega);have hcv : IntKind.i64.wrap (n : Int) = (n : Int) := IntWalk.i64_in _ (by omega)
     by_cases h7 : m < n
     · have h7' : (m : Int) < (n : Int) := by omega
       have HE := Lib.hid (qel l n hn.out (.inr (by omega)));clear hl hl4 hl8 hl44 hA8 hn hN2 s3 h6 hm8 hc8 hc4 h8 hll hlc hm hnlt h7
       go_enter Tryz.func146,Tryz.ntmps146
       go_wp2
       go_quiet (fail)
       go_wp2_with (first | (go_at_call 181; refine (hN1 _).mono ?_; rintro e w1 ⟨rfl,rfl⟩) | fail)
       refine bodyPost_ret (results_tmp2 rfl _ _ _) rfl ?_;exact ⟨.no HE,by first | exact Below.refl _ _ | exact below_drewN (Below.refl _ _) _⟩
     · have h7' : ((m : Int) < (n : Int)) = False := eq_false (by omega)
       have s4 := fun W => qdI (P := Tryz.prog) Tryz.underlying23 qar .u32 A8 m c8 n (by omega) W
       have hlr := hl8.take n (by omega);have hrl : ((l.drop 8).take n).length = n := hlr.1
       have hS := fun nq => qfq A A8 4 cap n c8 _ _ (w.drewN nq) (hl4.below (below_drewN (Below.refl w.heap.size w) nq) (Nat.le_refl _)) (hlr.below (below_drewN (Below.refl w.heap.size w) nq) (Nat.le_refl _)) (by unfold maxLen; omega) (by unfold maxLen; omega)
       have HI := Lib.hid (qjV l n hn.out (by omega) (by omega));generalize num ((l.drop 4).take 4) = p at hN2 HI;generalize moreN (moreN 0 (l.take 4)) ((l.drop 8).take n) = q at hS HI;have hLR := Lib.hid hlr;clear hl hl4 hl8 hl44 hn h6 h7 hlr hll hlc hm8 hc8 hc4 h8 hm hnlt;have HA8 := Lib.hid hA8;clear hA8;have HRL := Lib.hid hrl;clear hrl
       by_cases hpq : p = q
       · have HE := Lib.hid (show qO l = some _ by rw [HI,if_pos hpq]);clear HI;subst hpq
         go_enter Tryz.func146,Tryz.ntmps146
         go_wp2
         go_quiet (fail)
         go_wp2_with fail
         refine (hN1 _).mono ?_;rintro e w1 ⟨rfl,rfl⟩
         go_wp2_with fail
         refine (hN2 _).mono ?_;rintro e w1 ⟨rfl,rfl⟩
         go_wp2_with fail
         refine (hS _).mono ?_;rintro e w1 ⟨rfl,rfl⟩;go_wp2;refine bodyPost_ret (results_tmp2 rfl _ _ _) rfl ?_;refine ⟨.inr ⟨_,A8,c8,HE,(by rw [HRL]; rfl),(by rw [HRL]; exact hLR.below (below_drewN (Below.refl w.heap.size w) _) (Nat.le_refl _)),HA8⟩,below_drewN (Below.refl _ _) _⟩
       · have HE := Lib.hid (show qO l = none by rw [HI,if_neg hpq]);have hne : ((p : Int) = (q : Int)) = False := eq_false (by omega)
         have hne2 : ((p : Int) != (q : Int)) = true := by simp [hne]
         clear HI hpq
         go_enter Tryz.func146,Tryz.ntmps146
         go_wp2
         go_quiet (fail)
         go_wp2_with fail
         refine (hN1 _).mono ?_;rintro e w1 ⟨rfl,rfl⟩
         go_wp2_with fail
         refine (hN2 _).mono ?_;rintro e w1 ⟨rfl,rfl⟩
         go_wp2_with fail
         refine (hS _).mono ?_;rintro e w1 ⟨rfl,rfl⟩;go_wp2;refine bodyPost_ret (results_tmp2 rfl _ _ _) rfl ?_;exact ⟨.no HE,below_drewN (Below.refl _ _) _⟩
end Go.Proofs.YtogbhedbgcmckaaGreat
set_option linter.unusedVariables false
set_option linter.unusedSimpArgs false
set_option maxRecDepth 100000
set_option maxHeartbeats 200000
namespace Go.Proofs.YtogbhedbgcmckaaGreat
theorem qem (s : ByteArray) : s.data.toList.length = s.size := by simp
def part (l : List UInt8) (a b : Nat) : List UInt8 := (l.drop a).take (b - a)
theorem qgl (l : List UInt8) (a b : Nat) (h1 : a <= b) (h2 : b <= l.length) : (part l a b).length = b - a := by
 simp [part]; omega
theorem qcO (l : List UInt8) (k n : Nat) : (l.drop k).take n = part l k (k + n) := by
 rw [part,Nat.add_sub_cancel_left]
theorem qhq (l : List UInt8) (k n : Nat) : ((l.drop k).drop 8).take n = part l (k + 8) (k + 8 + n) := by
 rw [List.drop_drop,qcO]
theorem qix (l : List UInt8) (k n : Nat) (hn : num (part l k (k + 4)) = n) (hk : k + 8 + n <= l.length) (h6 : n <= 60000) (h : qae (part l (k + 8) (k + 8 + n)) = part l k (k + 8 + n)) :
 qB (l.drop k) = (part l (k + 8) (k + 8 + n) :: (qB (l.drop (k + 8 + n))).1,8 + n + (qB (l.drop (k + 8 + n))).2) := by
 have h1 : qO (l.drop k) = some (part l (k + 8) (k + 8 + n)) := by
  unfold qO;rw [qcO,hn,if_neg (by rw [List.length_drop]; omega),if_neg (by rw [List.length_drop]; omega),qhq,qcO,if_pos (by rw [<- Nat.add_assoc]; exact h)]
 rw [qbs h1,qgl _ _ _ (by omega) (by omega),List.drop_drop]
 have e1 : k + (k + 8 + n - (k + 8) + 8) = k + 8 + n := by omega
 have e2 : k + 8 + n - (k + 8) + 8 = 8 + n := by omega
 rw [e1,e2]
structure Told (l : List UInt8) (k : Nat) (ls : List (List UInt8)) : Prop where
 le : k <= l.length
 all : qB l = (ls ++ (qB (l.drop k)).1,k + (qB (l.drop k)).2)
theorem Told.start (l : List UInt8) : Told l 0 [] := ⟨Nat.zero_le _,by simp⟩
theorem Told.next {l : List UInt8} {k n : Nat} {ls : List (List UInt8)} (h : Told l k ls) (hn : num (part l k (k + 4)) = n) (hk : k + 8 + n <= l.length) (h6 : n <= 60000) (hf : qae (part l (k + 8) (k + 8 + n)) = part l k (k + 8 + n)) :
 Told l (k + 8 + n) (ls ++ [part l (k + 8) (k + 8 + n)]) := by
 refine ⟨hk,?_⟩;rw [h.all,qix l k n hn hk h6 hf,List.append_assoc,List.singleton_append]
 congr 1
 omega
theorem Told.done {l : List UInt8} {k : Nat} {ls : List (List UInt8)} (h : Told l k ls) (hs : qB (l.drop k) = ([],0)) : qB l = (ls,k) := by
 rw [h.all,hs,List.append_nil,Nat.add_zero]
end Go.Proofs.YtogbhedbgcmckaaGreat
set_option linter.unusedVariables false
set_option linter.unusedSimpArgs false
set_option maxRecDepth 100000
set_option maxHeartbeats 3200000
namespace Go.Proofs.YtogbhedbgcmckaaGreat
open Go.RowKit
theorem qcm : (Tryz.prog.info? 23).map (fun i => (i.zero,i.size,i.bytes)) = some (some (.slice none 0 0),1,24) := by kernel_rfl
theorem Told.step {l r : List UInt8} {k : Nat} {ls : List (List UInt8)} (h : Told l k ls) (hs : qO (l.drop k) = some r) : Told l (k + (8 + r.length)) (ls ++ [r]) := by
 obtain ⟨e,hr⟩ := qaG hs;have hlen := congrArg List.length e;rw [List.length_append,qG,List.length_drop] at hlen;refine ⟨by have := h.le; omega,?_⟩;rw [h.all,qbs hs,List.drop_drop,List.append_assoc,List.singleton_append]
 have e1 : k + (r.length + 8) = k + (8 + r.length) := by omega
 rw [e1]
 congr 1
 omega
theorem Told.room {l r : List UInt8} {k : Nat} (hs : qO (l.drop k) = some r) : k + (8 + r.length) <= l.length /\ r.length <= 60000 := by
 obtain ⟨e,hr⟩ := qaG hs;have hlen := congrArg List.length e;rw [List.length_append,qG,List.length_drop] at hlen;omega
def qn (w : World) (B : Nat) (v : Value) (ts : List (List UInt8)) : Prop :=
 ∃ vs,w.ownsRow B 23 1 v ts.length vs /\ vs.length = ts.length /\ ∀ j (hj : j < ts.length),∃ e,vs[j]? = some e /\ Rec1 w (fun g => B <= g /\ v.ownBlock ≠ some g) e ts[j]
theorem qn.nil (w : World) (B : Nat) : qn w B (.slice none 0 0) [] := ⟨[],World.ownsRow_nil _ _ _ _,rfl,fun j hj => by simp at hj⟩
theorem qdt {w w' : World} {base : Nat} {e : TypeId} {size n : Nat} {v : Value} {xs : List Value} (h : w.ownsRow base e size v n xs) (hk : ∀ g,v.ownBlock = some g -> w'.heap[g]? = w.heap[g]?) : w'.ownsRow base e size v n xs := by
 rcases h.2 with ⟨e,h0⟩ | ⟨g,cap,cur,e,hb,hg,r⟩
 · exact ⟨h.1, .inl ⟨e,h0⟩⟩
 · exact ⟨h.1, .inr ⟨g,cap,cur,e,hb,(hk g (by rw [e]; rfl)).trans hg,r⟩⟩
theorem qn.below {w w' : World} {B : Nat} {v : Value} {ts : List (List UInt8)} (h : qn w B v ts) (hb : Below w.heap.size w w') : qn w' B v ts := by
 obtain ⟨vs,ho,hl,he⟩ := h;refine ⟨vs,qdt ho fun g hg => hb.block g (ho.lt g hg).2,hl,fun j hj => ?_⟩;obtain ⟨e,h1,h2⟩ := he j hj;exact ⟨e,h1,h2.keep hb.size fun k hk _ => hb.block k hk⟩
theorem qn.form {w : World} {B : Nat} {v : Value} {ts : List (List UInt8)} (h : qn w B v ts) : ∃ A cap,v = .slice A ts.length cap := by
 obtain ⟨vs,ho,hl,he⟩ := h;rcases ho.2 with ⟨rfl,h0⟩ | ⟨g,cap,cur,rfl,_⟩
 · exact ⟨none,0,by rw [h0]⟩
 · exact ⟨_,_,rfl⟩
theorem qn.recs {w : World} {B : Nat} {A : Option Addr} {n cap : Nat} {ts : List (List UInt8)} (h : qn w B (.slice A n cap) ts) : Recs w (B <= ·) A ts.length cap ts := by
 obtain ⟨vs,ho,hl,he⟩ := h;rcases ho.2 with ⟨e,h0⟩ | ⟨g,cap',cur,e,hb,hg,hc,hm,hs,ht⟩
 · injection e with e1 e2 e3;subst e1 e3;exact ⟨rfl,by omega,fun _ => rfl,fun h => by omega⟩
 · injection e with e1 e2 e3;subst e1 e3;refine ⟨rfl,by omega,(fun h => by cases h),fun h0 => ⟨g,0,rfl,hlt hg,hb,fun j hj => ?_⟩⟩;obtain ⟨e,h1,h2⟩ := he j hj;refine ⟨e,?_,h2.mono fun k hk => hk.1⟩;rw [cell_of_row w g _ cur _ (0,0) hg,Nat.zero_add];have := congrArg (fun q => q[j]?) ht;simp only [List.getElem?_take] at this;rw [if_pos (by omega),h1] at this
   simpa using this
theorem qn.more {w w1 w' : World} {B g cap : Nat} {v e : Value} {ts : List (List UInt8)} {r : List UInt8} (h : qn w B v ts) (hb : Below w.heap.size w w1)
 (he : Rec1 w1 (fun g => w.heap.size <= g) e r) (hBw : B <= w.heap.size) (vs : List Value) (hvs : vs.length = ts.length)
 (hat : ∀ j (hj : j < ts.length),∃ e,vs[j]? = some e /\ Rec1 w (fun g => B <= g /\ v.ownBlock ≠ some g) e ts[j])
 (ho : w'.ownsRow B 23 1 (.slice (some ⟨g,0,none⟩) (ts.length + 1) cap) (ts.length + 1) (vs ++ [e])) (hg : w1.grownBy w' v.ownBlock) (hv : ∀ k,v.ownBlock = some k -> k < w.heap.size) (hq : v.ownBlock = some g \/ w1.heap.size <= g) : qn w' B (.slice (some ⟨g,0,none⟩) (ts.length + 1) cap) (ts ++ [r]) := by
 have hs1 := hb.size;refine ⟨vs ++ [e],by rw [List.length_append]; exact ho,by simp [hvs],fun j hj => ?_⟩
 have hne : ∀ {Y : Nat -> Prop} {x : Value} {t : List UInt8},Rec1 w1 Y x t -> (∀ k,k < w1.heap.size -> Y k -> B <= k /\ v.ownBlock ≠ some k) -> Rec1 w' (fun q => B <= q /\ (Value.slice (some ⟨g,0,none⟩) (ts.length + 1) cap).ownBlock ≠ some q) x t := by
  intro Y x t hx hY;obtain ⟨E,c,ex,hc,hl,hz⟩ := hx;refine ⟨E,c,ex,hc,hl.keep hg.size fun h0 q off eq hlt => hg.block q hlt fun er => (hY q hlt (hz h0 q off eq)).2 er.symm,fun h0 q off eq => ?_⟩;obtain ⟨q',off',eq',hlt,_⟩ := hl.2.2.2 h0
  have hqq : q' = q := by rw [eq] at eq'; injection eq' with eq'; injection eq' with e1 _; exact e1.symm
  subst hqq;have h3 := hY q' hlt (hz h0 q' off eq);refine ⟨h3.1,fun er => ?_⟩;injection er with er;have er : g = q' := er;subst er;rcases hq with hq | hq
  · exact h3.2 hq
  · omega
 by_cases hjl : j < ts.length
 · obtain ⟨x,h1,h2⟩ := hat j hjl;refine ⟨x,by rw [List.getElem?_append_left (by omega)]; exact h1,?_⟩;rw [List.getElem_append_left hjl]
   exact hne (h2.keep hs1 fun k hk _ => hb.block k hk) fun k _ hk => hk
 · obtain rfl : j = ts.length := by simp at hj; omega
   refine ⟨e,by rw [<- hvs]; simp,?_⟩;rw [List.getElem_append_right (Nat.le_refl _)];simp only [Nat.sub_self,List.getElem_cons_zero]
   exact hne he fun k _ hk => ⟨Nat.le_trans hBw hk,fun er => by have := hv k er; omega⟩
structure qdJ (w wr : World) (l : List UInt8) (k : Nat) (ts : List (List UInt8)) (v : Value) : Prop where
 told : Told l k ts
 many : 8 * ts.length <= k
 row : qn wr w.heap.size v ts
 below : Below w.heap.size w wr
def qcn (l : List UInt8) (w : World) (e : Ending) (w' : World) : Prop :=
 ∃ A cap,e = .returned (.tuple #[.slice A (qB l).1.length cap, .int .i64 (((qB l).2 : Nat) : Int)]) /\ Recs w' (w.heap.size <= ·) A (qB l).1.length cap (qB l).1 /\ Below w.heap.size w w'
theorem qcn.of {l : List UInt8} {w wr w' : World} {k : Nat} {ts : List (List UInt8)} {A : Option Addr} {n cap : Nat} (h : qdJ w wr l k ts (.slice A n cap)) (hn : n = ts.length) (hs : qO (l.drop k) = none) (hb : Below wr.heap.size wr w') : qcn l w (.returned (.tuple #[.slice A n cap, .int .i64 (k : Int)])) w' := by
 have hd := h.told.done (qck hs);refine ⟨A,cap,by rw [hd,hn],?_,h.below.trans (hb.mono h.below.size)⟩;rw [hd];exact h.row.recs.below hb (Nat.le_refl _)
theorem qdu (A : Option Addr) (len cap : Nat) (l : List UInt8) (w : World) (hl : Lies w A len cap l) (hm : len <= 1000000000) :
 Calls Tryz.prog 108 #[.slice A len cap] w (qcn l w) := by
 have hll := hl.1;have hlc := hl.2.1;have hT0 : qdJ w w l 0 [] (.slice none 0 0) := ⟨Told.start _,by simp,qn.nil _ _,Below.refl _ _⟩;obtain ⟨i0,hi0,hz0,hz1,hz2⟩ := info_parts qcm
 go_enter Tryz.func108,Tryz.ntmps108
 go_wp2
 go_loopg [4,5,6,7] len (fun g v a r o wr => ∃ (k : Nat) (ts : List (List UInt8)),a = .int .i64 (k : Int) /\ k + g = len /\ qdJ w wr l k ts v)
 case atStart => exact ⟨0,[],rfl,by omega,hT0⟩
 case round =>
  clear hT0;obtain ⟨k,ts,rfl,hk,hT⟩ := hrel;obtain ⟨A0,cap0,rfl⟩ := hT.row.form
  have s1 := fun W => qcf (P := Tryz.prog) Tryz.underlying23 qar A len cap k (by omega) hlc W
  have hld := (hl.drop k (by omega)).below hT.below (Nat.le_refl _);generalize qK A cap k = A1 at *;generalize cap - k = c1 at *;obtain ⟨m,hmk⟩ := exq (len - k);rw [hmk] at s1 hld;have hF := qfu A1 m c1 _ wr hld (by omega);have HT := Lib.hid hT;have HK := Lib.hid hk
  cases hs : qO (l.drop k) with
  | none =>
    have HS := Lib.hid hs;clear hT hk hmk hl hll hlc hm
    go_wp2_with (first
     | (go_at_call 146
        refine hF.mono ?_;rintro e w1 ⟨hf,hb1⟩
        have he : e = .returned (.tuple #[.slice none 0 0, .bool false]) := by
         rcases hf with ⟨_,he⟩ | ⟨r,B,c,h1,_⟩
         · exact he
         · rw [HS] at h1; cases h1
        subst he
        clear hf)
     | fail)
    refine bodyPost_ret (results_tmp2 rfl _ _ _) rfl ?_;exact qcn.of HT rfl HS hb1
  | some r =>
    have HS := Lib.hid hs;obtain ⟨hrm,hr6⟩ := Told.room hs;rw [hll] at hrm;have HTS := Lib.hid (hT.told.step hs);have hmany := hT.many;have hbw := hT.below;have hs0 := hT.below.size;obtain ⟨vs,hown,hvl,hvat⟩ := hT.row;have hof := hown.lt;have hrow := Lib.hid hT.row;obtain ⟨n,hn⟩ : ∃ n,Hid (r.length = n) := ⟨_,⟨rfl⟩⟩
    have HV := Lib.hid hvat
    have HVL := Lib.hid hvl;rw [hn.out] at hrm hr6
    have e1 : IntKind.i64.wrap (8 + (n : Int)) = ((8 + n : Nat) : Int) := by rw [IntWalk.i64_in _ (by omega)]; omega
    have e2 : IntKind.i64.wrap ((k : Int) + ((8 + n : Nat) : Int)) = ((k + (8 + n) : Nat) : Int) := by rw [IntWalk.i64_in _ (by omega)]; omega
    have hk2 : Hid (k + (8 + n) <= len /\ 8 <= n + 8) := ⟨by omega,by omega⟩;have hmn : Hid (8 * ts.length <= k /\ ts.length <= 1000000000) := ⟨by omega,by omega⟩;have hn6 : Hid (n <= 60000) := ⟨hr6⟩;generalize h8 : 8 + n = n8 at *;have H8 := Lib.hid h8;clear hT hk hmk hs hrm hr6 hmany hm hll hlc hl h8 hvat hvl
    go_wp2_with (first
     | (go_at_call 146
        refine hF.mono ?_;rintro e w1 ⟨hf,hb1⟩
        obtain ⟨B,c,he,hlB⟩ : ∃ B c,e = .returned (.tuple #[.slice B n c, .bool true]) /\ Lies w1 B n c r := by
         rcases hf with ⟨h1,_⟩ | ⟨r',B,c,h1,he,hlr,_⟩
         · rw [HS] at h1; cases h1
         · rw [HS] at h1;injection h1 with h1;subst h1;rw [hn.out] at he hlr;exact ⟨B,c,he,hlr⟩
        subst he
        clear hf)
     | fail)
    refine (qas _ _ _ r _ hlB (by have := hn.out; have := hn6.out; omega)).mono ?_;rintro e w2 ⟨v2,rfl,ho2,hb2⟩;obtain ⟨A2,cap2,he2,hl2,hq2⟩ := qp ho2;have hc2 : cap2 <= maxLen := qcl (by rw [<- he2]; exact ho2);rw [hn.out] at he2 hl2;have hof2 := ho2.lt;subst he2;have hb12 : Below wr.heap.size wr w2 := hb1.trans (hb2.mono hb1.size)
    have hown2 := qdt hown fun g hg => hb12.block g (hof g hg).2
    have htl : ts.length <= 1000000000 := hmn.out.2
    go_wp2_with (first
     | (at_builtin; refine wpList_append_lies _ rfl _ _ 127 rfl w.heap.size 23 i0 _ 1 24 Tryz.underlying127 hi0 hz0 hz1 hz2 rfl (by omega) (.slice A0 ts.length cap0) ts.length vs rfl (hown2.alloc _) ⟨w2.heap.size,0,none⟩ 1 1 [.slice A2 n cap2] rfl rfl (World.news_of_block (heap_alloc_new w2 _)) (by simp [Value.oneCell']) (by omega) (by unfold maxLen; omega) (by omega) (by have := hb12.size; simp; omega) (w2.heap.size + 1) (by simp) ?_
        intro g2 cap3 w4 ho4 hgr4 hat4 hlt4)
     | fail)
    have hrec : qn w4 w.heap.size (.slice (some ⟨g2,0,none⟩) (ts.length + 1) cap3) (ts ++ [r]) := by
     have hz := hb12.size;refine qn.more (w := wr) (w1 := w2.alloc (.cells #[.slice A2 n cap2] 23)) hrow (hb12.alloc hb12.size _) (e := .slice A2 n cap2) ?_ hs0 vs HVL HV ho4 hgr4 (fun q hq => (hof q hq).2) ?_
     · refine ⟨A2,cap2,by rw [hn.out],hc2,?_,fun h0 g off e => ?_⟩
       · rw [hn.out];exact hl2.below ((Below.refl w2.heap.size w2).alloc (Nat.le_refl _) _) (Nat.le_refl _)
       · have h1 := (hof2 g (hq2 g off e)).1;have h2 := hb1.size;omega
     · rcases hat4 with h | h
       · exact .inl h
       · exact .inr (by simp; omega)
    have hbw4 : Below w.heap.size w w4 := (hbw.trans ((hb12.alloc hb12.size _).mono hs0)).grown hgr4 (by have := hb12.size; simp; omega) fun q hq => (hof q hq).1;have HR := Lib.hid hrec;have HB := Lib.hid hbw4;clear hrec hbw4 ho4 hgr4 hat4 hof hof2 hl2 hq2 hown2 hown hb12 hb2 hb1 ho2 hF hlB hmn htl hlt4;go_wp2
    go_roundg (gk - (8 + n))
    case measure =>
     have a1 : k + gk = len := HK;have a2 : 8 + n = n8 := H8;have a3 := hk2.out.1;omega
    case rel =>
     have a1 : k + gk = len := HK;have a2 : 8 + n = n8 := H8;have a3 := hk2.out.1;refine ⟨k + n8,ts ++ [r],by first | rfl | go_num,by omega,?_,?_,HR,HB⟩
     · have h0 : Told l (k + (8 + r.length)) (ts ++ [r]) := HTS;rw [hn.out,a2] at h0;exact h0
     · have h0 : qdJ w wr l k ts _ := HT;have h1 := h0.many;rw [List.length_append,List.length_singleton];omega
end Go.Proofs.YtogbhedbgcmckaaGreat
set_option linter.unusedVariables false
set_option linter.unusedSimpArgs false
set_option maxRecDepth 100000
set_option maxHeartbeats 200000
namespace Go.Proofs.YtogbhedbgcmckaaGreat
open Go.RowKit
def Dsk.told (D : Dsk) (name : ByteArray) : List (List UInt8) × Nat := qB (D.read name).1.data.toList
def Dsk.trim (D : Dsk) (name : ByteArray) : Dsk := if (D.told name).2 < (D.read name).1.size then (D.cut name ((D.told name).2 : Int)).1 else D
def qdK (w w' : World) (d : Nat) (D : Dsk) (name : ByteArray) (Z : Nat -> Prop) (e : Ending) (ls : List (List UInt8)) : Prop :=
 ∃ j A cap Z',e = .returned (.tuple #[jptr j, .slice A ls.length cap, .int .i64 0]) /\ Lg w' j d D name (ls.length : Int) Z' /\ Recs w' Z' A ls.length cap ls /\ (∀ k,Z k -> Z' k) /\ (∀ k,Z k -> k ≠ j) /\ qa Z w w'
theorem qen {w w2 w3 : World} {d : Nat} {D D' : Dsk} {name : ByteArray} {Z : Nat -> Prop} {A : Option Addr} {cap : Nat} {ls : List (List UInt8)} {fr : Nat × Nat} (h : Dk w d D Z) (hb : Below w.heap.size w w2) (hr : Recs w2 (w.heap.size <= ·) A ls.length cap ls) (hd : Did w2 w3 d D' (fun k => Z k \/ w.heap.size <= k /\ k < w2.heap.size)) :
 qdK w (w3.alloc (.cells #[dptr d, .string name, .int .i64 (ls.length : Int)] 179)) d D' name Z (.returned (.tuple #[jptr w3.heap.size, .slice A ls.length cap, .int .i64 0])) ls := by
 have hb3 : Below w3.heap.size w3 (w3.alloc (.cells #[dptr d, .string name, .int .i64 (ls.length : Int)] 179)) := (Below.refl _ _).alloc (Nat.le_refl _) _
 have hr3 : Recs w3 (fun k => Z k \/ w.heap.size <= k /\ k < w2.heap.size) A ls.length cap ls := by
  have : Recs w2 (fun k => Z k \/ w.heap.size <= k /\ k < w2.heap.size) A ls.length cap ls := by
   refine ⟨hr.1,hr.2.1,hr.2.2.1,fun h0 => ?_⟩;obtain ⟨g,off,e,hg,hz,hc⟩ := hr.2.2.2 h0;refine ⟨g,off,e,hg, .inr ⟨hz,hg⟩,fun i hi => ?_⟩;obtain ⟨v,hv,E,c,ev,hc,hl,hz2⟩ := hc i hi;refine ⟨v,hv,E,c,ev,hc,hl,fun h1 g2 off2 e2 => .inr ⟨hz2 h1 g2 off2 e2,?_⟩⟩;obtain ⟨g3,off3,e3,hg3,_⟩ := hl.2.2.2 h1;rw [e2] at e3;injection e3 with e3;injection e3 with e3 _;omega
  exact this.keeps hd.2 fun k hk => hk
 refine ⟨w3.heap.size,A,cap,_,rfl,⟨heap_alloc_new _ _,hd.1.wide hb3, .inr ⟨Nat.le_refl _,by simp⟩⟩,(hr3.below hb3 (Nat.le_refl _)).mono fun k hk => .inl hk,fun k hk => .inl (.inl hk),fun k hk e => ?_,?_⟩
 · have := h.old k hk;have := hb.size;have := hd.2.size;omega
 · exact (qb hb (Nat.le_refl _)).trans ((hd.2.mono fun k hk => .inl hk).trans (qb hb3 (Nat.le_refl _)))
theorem qfv (w : World) (d : Nat) (D : Dsk) (Z : Nat -> Prop) (h : Dk w d D Z) (name : ByteArray) (hn : name.size <= 11) (hR : (D.read name).2 = 0 \/ (D.read name).2 = 6) (hC : (D.told name).2 < (D.read name).1.size -> (D.cut name ((D.told name).2 : Int)).2 = 0) :
 Calls Tryz.prog 57 #[dptr d, .string name] w fun e w' => qdK w w' d (D.trim name) name Z e (D.told name).1 := by
 have hA := qcj w d D Z h name;have hn11 : ((11 : Int) < (name.size : Int)) = False := eq_false (by omega)
 have hsz : (D.read name).1.size <= 1048576 := by
  have h1 := h.good.usedN;have h2 := qaW D.l name;have h3 := qb5 D.l name;unfold Dsk.read
  split
  · exact Nat.zero_le _
  · split
    · exact Nat.zero_le _
    · dsimp only; omega
 have hend := qcM (D.read name).1.data.toList;have hlen : (D.read name).1.data.toList.length = (D.read name).1.size := qem _;unfold Dsk.trim at *;unfold Dsk.told at *
 have hcut := fun w2 (hw : Dk w2 d D (fun k => Z k \/ w.heap.size <= k /\ k < w2.heap.size)) => qgM w2 d D _ hw name ((qB (D.read name).1.data.toList).2 : Int) (by omega)
 generalize hre : D.read name = r at *;obtain ⟨bb,er⟩ := r;dsimp only at *;generalize hL : bb.data.toList = L at *
 have hScan := fun A cap w1 (hl : Lies w1 A bb.size cap L) => qdu A bb.size cap L w1 hl (by omega)
 unfold qcn at hScan;generalize qB L = sc at *;obtain ⟨ls,en⟩ := sc;dsimp only at *;have HD := Lib.hid h
 have her2 : ((er : Int) != 0 && (er : Int) != 6) = false := by
  rcases hR with rfl | rfl <;> rfl
 by_cases hlt : en < bb.size
 · rw [if_pos hlt];have hc0 := hC hlt;generalize D.cut name (en : Int) = rc at *;obtain ⟨Dc,ec⟩ := rc;dsimp only at *;subst hc0
   have hlt' : (en : Int) < (bb.size : Int) := by omega
   clear hre hL hlen hend hC h hlt hsz hn;rcases hR with rfl | rfl
   all_goals
    go_enter Tryz.func57,Tryz.ntmps57
    go_wp2_with fail
    refine hA.mono ?_;rintro e w1 ⟨A1,cap1,rfl,hl1,hb1⟩;have hS := hScan A1 cap1 w1 hl1;clear hA hl1
    go_wp2_with fail
    refine hS.mono ?_;rintro e w2 ⟨A2,cap2,rfl,hr2,hb2⟩;have hb12 : Below w.heap.size w w2 := hb1.trans (hb2.mono hb1.size)
    have hr2' := hr2.mono (Z' := (w.heap.size <= ·)) fun k hk => Nat.le_trans hb1.size hk
    have hK := hcut w2 (Dk.wide HD hb12);clear hS hcut hScan hr2 hb2 hb1
    go_wp2_with fail
    refine hK.mono ?_;rintro e w3 ⟨rfl,hd3⟩;have HO := Lib.hid (qen (name := name) (fr := (0,0)) HD hb12 hr2' hd3);clear hK hd3 hr2' hb12;go_wp2;refine bodyPost_ret (results_tmp3 rfl _ _ _) rfl ?_;exact HO
 · rw [if_neg hlt];have hlt' : ((en : Int) < (bb.size : Int)) = False := eq_false (by omega);clear hre hL hlen hend hC h hlt hsz hn hcut;rcases hR with rfl | rfl
   all_goals
    go_enter Tryz.func57,Tryz.ntmps57
    go_wp2_with fail
    refine hA.mono ?_;rintro e w1 ⟨A1,cap1,rfl,hl1,hb1⟩;have hS := hScan A1 cap1 w1 hl1;clear hA hl1
    go_wp2_with fail
    refine hS.mono ?_;rintro e w2 ⟨A2,cap2,rfl,hr2,hb2⟩;have hb12 : Below w.heap.size w w2 := hb1.trans (hb2.mono hb1.size)
    have hr2' := hr2.mono (Z' := (w.heap.size <= ·)) fun k hk => Nat.le_trans hb1.size hk
    have HO := Lib.hid (qen (name := name) (fr := (0,0)) HD hb12 hr2' (Did.refl (Dk.wide HD hb12)));clear hS hScan hr2 hb2 hb1 hr2' hb12;go_wp2;refine bodyPost_ret (results_tmp3 rfl _ _ _) rfl ?_;exact HO
end Go.Proofs.YtogbhedbgcmckaaGreat
