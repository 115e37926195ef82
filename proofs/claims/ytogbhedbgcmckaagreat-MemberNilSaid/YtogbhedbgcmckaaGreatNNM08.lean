/- named, ready, power of the program's disk, each by its contract. -/
import Derived.Test.YtogbhedbgcmckaaGreatNNM07
import Derived.Lib.ConvBytes
import Derived.Deep.Cut
import Derived.Deep.DeepCutAuto
set_option linter.unusedVariables false
set_option linter.unusedSimpArgs false
set_option maxRecDepth 100000
set_option maxHeartbeats 1000000
namespace Go.Proofs.YtogbhedbgcmckaaGreat
open Go.RowKit
theorem bytesWorld_below (w : World) (e : TypeId) (s : ByteArray) : Below w.heap.size w (Lib.bytesWorld w e s) :=
 ⟨rfl,rfl,rfl,by rw [Lib.bytesWorld_size]; omega,fun k hk => Lib.bytesWorld_at_old w e s k hk⟩
theorem qio (s : ByteArray) (w : World) : Calls Tryz.prog 71 #[.string s] w fun e w' => e = .returned (.bool (qF s)) /\ Below w.heap.size w w' := by
 by_cases h1 : s.size < 1
 · have h1' : ((s.size : Int) < 1) := by omega
   have hr : qF s = false := by simp [qF,h1]
   rw [hr];clear hr
   go_enter Tryz.func71,Tryz.ntmps71
   go_wp2;go_ret;exact ⟨rfl,Below.refl _ _⟩
 · have h1' : ¬ ((s.size : Int) < 1) := by omega
   by_cases h2 : 12 < s.size
   · have h2' : ((12 : Int) < (s.size : Int)) := by omega
     have hr : qF s = false := by simp [qF,h2]
     rw [hr];clear hr
     go_enter Tryz.func71,Tryz.ntmps71
     go_wp2;go_ret;exact ⟨rfl,Below.refl _ _⟩
   · have h2' : ¬ ((12 : Int) < (s.size : Int)) := by omega
     have HR : Hid (qF s = qad s.data.toList) := ⟨by simp [qF,h1,h2]⟩;have kc := Lib.run_convert_string_bytes (P := Tryz.prog) w 9 23 5 s Tryz.underlying9 Tryz.underlying23 Tryz.underlying5;have hbw := bytesWorld_below w 5 s
     have hc : ∀ j (hj : j < s.size),(Lib.bytesWorld w 5 s).cell? ⟨w.heap.size,j,none⟩ = some (.int .u8 ((s[j]).toNat : Int)) := fun j hj => by
      rw [Lib.bytesWorld_cell w _ s j hj]
      have : s.data.toList.getD j 0 = s[j] := by
       rw [List.getD_eq_getElem?_getD,List.getElem?_eq_getElem (by simpa using hj)]; rfl
      rw [this]
     generalize Lib.bytesWorld w 5 s = W1 at kc hbw hc;generalize grownCap w s.size 0 5 = cp at kc
     go_enter Tryz.func71,Tryz.ntmps71
     go_wp2
     go_loopg [16] s.size (fun g i wr => W1 = wr /\ ∃ k : Nat,k + g = s.size /\ i = .int .i64 (k : Int) /\ Hid (qad (s.data.toList.take k) = true))
     case atStart => exact ⟨rfl,0,by omega,rfl,⟨rfl⟩⟩
     case round =>
      obtain ⟨rfl,k,hk,rfl,HK⟩ := hrel
      by_cases hlt : k < s.size
      · have HT : Hid (qad (s.data.toList.take (k + 1)) = (qad (s.data.toList.take k) && !(decide ((s[k]).toNat < 33) || decide (126 < (s[k]).toNat)))) := ⟨qgf s k hlt⟩
        have hlt' : (k : Int) < (s.size : Int) := by omega
        have hck := hc k hlt
        by_cases c1 : (s[k]).toNat < 33
        · have c1' : ((s[k]).toNat : Int) < 33 := by omega
          have HN : Hid (qF s = false) := ⟨qei s (k + 1) (by rw [HT.out,decide_eq_true c1]; simp)⟩;clear hc;go_wp2;go_ret;exact ⟨by rw [HN.out]; rfl,hbw⟩
        · have c1' : ¬ (((s[k]).toNat : Int) < 33) := by omega
          by_cases c2 : 126 < (s[k]).toNat
          · have c2' : (126 : Int) < ((s[k]).toNat : Int) := by omega
            have HN : Hid (qF s = false) := ⟨qei s (k + 1) (by rw [HT.out,decide_eq_true c2]; simp)⟩;clear hc;go_wp2;go_ret;exact ⟨by rw [HN.out]; rfl,hbw⟩
          · have c2' : ¬ ((126 : Int) < ((s[k]).toNat : Int)) := by omega
            have HY : Hid (qad (s.data.toList.take (k + 1)) = true) := ⟨by rw [HT.out,HK.out,decide_eq_false c1,decide_eq_false c2]; rfl⟩;clear hc;go_wp2
            go_roundg (gk - 1)
            case measure => omega
            case rel => exact ⟨rfl,k + 1,by omega,by go_num,HY⟩
      · have HY : Hid (qF s = true) := ⟨by rw [HR.out,<- HK.out,List.take_of_length_le (by simp; omega)]⟩
        obtain rfl : k = s.size := by omega
        have hdec : decide ((s.size : Int) < (s.size : Int)) = false := decide_eq_false (by omega);go_wp2;go_ret;exact ⟨by rw [HY.out]; rfl,hbw⟩
def RStr (w : World) (A : Option Addr) (l : List ByteArray) : Prop :=
 0 < l.length -> ∃ g off,A = some ⟨g,off,none⟩ /\ g < w.heap.size /\ ∀ j (hj : j < l.length),w.cell? ⟨g,off + j,none⟩ = some (.string l[j])
theorem RStr.below {w w' : World} {A : Option Addr} {l : List ByteArray} {B : Nat} (h : RStr w A l) (hb : Below B w w') (hB : w.heap.size <= B) : RStr w' A l := fun h0 => by
 obtain ⟨g,off,e,hg,hc⟩ := h h0;exact ⟨g,off,e,Nat.lt_of_lt_of_le hg hb.size,fun j hj => (hb.cell (p := ⟨g,off + j,none⟩) (Nat.lt_of_lt_of_le hg hB)).trans (hc j hj)⟩
def qaC (lost : Bool) (l : List ByteArray) : Nat := if lost then 5 else if l.all qF then 0 else 1
theorem qdE (D : Dsk) (a : ByteArray) : qaC D.lost [a] = D.may a a := by simp [qaC,Dsk.may]
theorem qhc (D : Dsk) (a b : ByteArray) : qaC D.lost [a,b] = D.may a b := by simp [qaC,Dsk.may]
theorem qgg (D : Dsk) : qaC D.lost [] = if D.lost then 5 else 0 := by simp [qaC]
theorem ready_nil (A : Option Addr) (n cap : Nat) (w : World) : Calls Tryz.prog 33 #[.pointer none, .slice A n cap] w fun e w' => e = .returned (.int .i64 1) /\ w = w' := by
 go_enter Tryz.func33,Tryz.ntmps33
 go_wp2;go_ret;exact ⟨rfl,rfl⟩
theorem qbS (w : World) (d : Nat) (D : Dsk) (M Z : Nat -> Prop) (X : ByteArray -> Prop) (t : FT) (h : Dt w d D M Z X t) (A : Option Addr) (cap : Nat) (l : List ByteArray) (hA : RStr w A l) (hl : l.length <= 100) :
 Calls Tryz.prog 33 #[.pointer (some ⟨d,0,none⟩), .slice A l.length cap] w fun e w' => e = .returned (.int .i64 ((qaC D.lost l : Nat) : Int)) /\ Below w.heap.size w w' := by
 obtain ⟨u,hbx,_⟩ := h.box;have hd := h.lt;obtain ⟨⟨a0,a1,a2,a3,a4⟩,_⟩ := row5 hbx;clear h hbx;obtain ⟨room,L,set,n,lost⟩ := D;dsimp only at *
 cases lost with
 | true =>
   go_enter Tryz.func33,Tryz.ntmps33
   go_wp2;go_ret;exact ⟨rfl,Below.refl _ _⟩
 | false =>
   go_enter Tryz.func33,Tryz.ntmps33
   go_wp2
   go_loopg [15] l.length (fun g i wr => ∃ k : Nat,k + g = l.length /\ i = .int .i64 (k : Int) /\ Below w.heap.size w wr /\ Hid ((l.take k).all qF = true))
   case atStart => exact ⟨0,by omega,rfl,Below.refl _ _,⟨rfl⟩⟩
   case round =>
    obtain ⟨k,hk,rfl,hb,HK⟩ := hrel
    have hlb : (l.length : Int) <= 100 := by omega
    by_cases hlt : k < l.length
    · have hlt' : (k : Int) < (l.length : Int) := by omega
      obtain ⟨g,off,rfl,hg,hc⟩ := (hA.below hb (Nat.le_refl _)) (by omega);have hck := hc k hlt;have HT : Hid ((l.take (k + 1)).all qF = qF l[k]) := ⟨by rw [List.take_succ_eq_append_getElem hlt,List.all_append,HK.out]; simp⟩;have hN := qio l[k] wr;clear hc
      cases hr : qF l[k] with
      | true =>
        rw [hr] at hN HT;clear hr
        go_wp2_with (first | (go_at_call 71; refine hN.mono ?_; rintro e w1 ⟨rfl,hb1⟩) | fail)
        go_roundg (gk - 1)
        case measure => omega
        case rel => exact ⟨k + 1,by omega,by go_num,hb.trans (hb1.mono hb.size),HT⟩
      | false =>
        rw [hr] at hN
        have HN : Hid (qaC false l = 1) := ⟨by
         have : l.all qF = false := by
          rw [<- Bool.not_eq_true,List.all_eq_true];intro h;have := h _ (List.getElem_mem hlt);rw [hr] at this;cases this
         simp [qaC,this]⟩
        clear hr
        go_wp2_with (first | (go_at_call 71; refine hN.mono ?_; rintro e w1 ⟨rfl,hb1⟩) | fail)
        go_ret;exact ⟨by rw [HN.out]; rfl,hb.trans (hb1.mono hb.size)⟩
    · obtain rfl : k = l.length := by omega
      have hdec : decide ((l.length : Int) < (l.length : Int)) = false := decide_eq_false (by omega)
      have HN : Hid (qaC false l = 0) := ⟨by
       have := HK.out;rw [List.take_length] at this
       simp [qaC,this]⟩
      go_wp2;go_ret;exact ⟨by rw [HN.out]; rfl,hb⟩
theorem qx {w : World} {d i : Nat} (u : Value) : qa (· ≠ d) w (w.setCell ⟨d,i,none⟩ u) := qg w ⟨d,i,none⟩ u (fun h => h rfl)
theorem qbg (w : World) (d : Nat) (D : Dsk) (M Z : Nat -> Prop) (X : ByteArray -> Prop) (t : FT) (h : Dt w d D M Z X t) (hg : Good D) (hl : D.lost = false) :
 Calls Tryz.prog 147 #[.pointer (some ⟨d,0,none⟩)] w fun e w' => e = .returned (.int .i64 ((if D.burn.lost then 5 else 0 : Nat) : Int)) /\ Dt w' d D.burn M Z X t /\ qa (· ≠ d) w w' := by
 obtain ⟨u,hbx,_⟩ := h.box;have hd := h.lt;obtain ⟨⟨a0,a1,a2,a3,a4⟩,⟨f0,f1,f2,f3,f4⟩⟩ := row5 hbx;have hn := hg.n;obtain ⟨room,L,set,n,lost⟩ := D;dsimp only at hl hn;subst hl
 have hu : ∀ cs,w.heap[d]? = some (.cells cs 88) -> cs[2]? = some (.pointer u) := fun cs hc => by
  rw [hbx] at hc;injection hc with hc;injection hc with hc;subst hc
  rfl
 cases set with
 | false =>
   have hf : qbD ⟨room,L,false,n,false⟩ = -1 := rfl
   have hbn : Dsk.burn ⟨room,L,false,n,false⟩ = ⟨room,L,false,n,false⟩ := by simp [Dsk.burn]
   rw [hbn];rw [hf] at a3;have HD := Lib.hid h;clear h hg hbx hu
   go_enter Tryz.func147,Tryz.ntmps147
   go_wp2;go_ret;exact ⟨rfl,HD.out,qa.refl _ _⟩
 | true =>
   have hf : qbD ⟨room,L,true,n,false⟩ = n := rfl;rw [hf] at a3;rw [hf] at hbx
   by_cases h0 : n = 0
   · subst h0
     have hbn : Dsk.burn ⟨room,L,true,0,false⟩ = ⟨room,L,true,0,true⟩ := by simp [Dsk.burn]
     rw [hbn];have HD : Hid (Dt (w.setCell ⟨d,4,none⟩ (.bool true)) d ⟨room,L,true,0,true⟩ M Z X t) := ⟨h.turn (qx _) (by rw [setCell_at w ⟨d,4,none⟩ _ _ _ _ rfl hbx]; rfl) hu rfl⟩;clear h hg hbx hu
     go_enter Tryz.func147,Tryz.ntmps147
     go_wp2;go_ret;exact ⟨rfl,HD.out,qx _⟩
   · have hp : 0 < n := by omega
     have hbn : Dsk.burn ⟨room,L,true,n,false⟩ = ⟨room,L,true,n - 1,false⟩ := by simp [Dsk.burn,h0,hp]
     rw [hbn];have e1 : IntKind.i64.wrap (n - 1) = n - 1 := IntWalk.i64_in _ (by omega);have HD : Hid (Dt (w.setCell ⟨d,3,none⟩ (.int .i64 (n - 1))) d ⟨room,L,true,n - 1,false⟩ M Z X t) := ⟨h.turn (qx _) (by rw [setCell_at w ⟨d,3,none⟩ _ _ _ _ rfl hbx]; rfl) hu rfl⟩;clear h hg hbx hu
     go_enter Tryz.func147,Tryz.ntmps147
     go_wp2;go_ret;exact ⟨rfl,HD.out,qx _⟩
theorem qjJ (name : ByteArray) (w : World) : Calls Tryz.prog 141 #[.pointer none, .string name] w fun e w' => e = .returned (.tuple #[fvV noFV, .int .i64 1]) /\ Below w.heap.size w w' := by
 go_enter Tryz.func141,Tryz.ntmps141
 go_wp2_with (first | (go_at_call 33; refine (ready_nil _ _ _ _).mono ?_; rintro e w1 ⟨rfl,rfl⟩) | fail)
 refine bodyPost_ret (qm (n := w.heap.size) rfl rfl ((Below.heap_alloc _ _ _ (by simp)).trans (heap_alloc_new _ _)) Tryz.underlying93 rfl (by kernel_rfl)) rfl ?_;exact ⟨rfl,((Below.refl _ _).alloc (Nat.le_refl _) _).alloc (by simp) _⟩
def Found (D : Dsk) (t : FT) (name : ByteArray) (v : FV) (c : Nat) : Prop :=
 (D.may name name ≠ 0 /\ c = D.may name name /\ v = noFV) \/ (D.may name name = 0 /\ (getF D.l name).2 = false /\ c = 6 /\ v = noFV) ∨
 (D.may name name = 0 /\ (getF D.l name).2 = true /\ c = 0 /\ (name,v) ∈ t.list /\ getF D.l name = (qj (name,v),true))
theorem RStr.one (w : World) (a : ByteArray) (T : TypeId) (fr : Nat × Nat) (n : Nat) (hn : n = w.heap.size) : RStr (w.alloc (.cells #[.string a] T fr)) (some ⟨n,0,none⟩) [a] := by
 subst hn
 refine fun _ => ⟨w.heap.size,0,rfl,by simp,fun j hj => ?_⟩
 obtain rfl : j = 0 := by simpa using hj
 rw [cell_of_row _ _ _ _ _ _ (heap_alloc_new w _)]
 rfl
theorem RStr.two (w : World) (a b : ByteArray) (T : TypeId) (fr : Nat × Nat) (n : Nat) (hn : n = w.heap.size) : RStr (w.alloc (.cells #[.string a, .string b] T fr)) (some ⟨n,0,none⟩) [a,b] := by
 subst hn
 refine fun _ => ⟨w.heap.size,0,rfl,by simp,fun j hj => ?_⟩
 rw [cell_of_row _ _ _ _ _ _ (heap_alloc_new w _)]
 have : j = 0 \/ j = 1 := by simp at hj; omega
 rcases this with rfl | rfl <;> rfl
theorem qbh (w : World) (d : Nat) (D : Dsk) (M Z : Nat -> Prop) (X : ByteArray -> Prop) (t : FT) (h : Dt w d D M Z X t) (name : ByteArray) :
 Calls Tryz.prog 141 #[.pointer (some ⟨d,0,none⟩), .string name] w fun e w' => ∃ v c,e = .returned (.tuple #[fvV v, .int .i64 ((c : Nat) : Int)]) /\ Found D t name v c /\ Below w.heap.size w w' := by
 have hR : ∀ w' A,Below w.heap.size w w' -> RStr w' A [name] -> Calls Tryz.prog 33 #[.pointer (some ⟨d,0,none⟩), .slice A 1 1] w' fun e w'' => e = .returned (.int .i64 ((D.may name name : Nat) : Int)) /\ Below w'.heap.size w' w'' := fun w' A hb hA => by
  have := qbS w' d D M Z X t (h.below hb) A 1 [name] hA (by simp)
  rwa [qdE] at this
 obtain ⟨u,hbx,hr⟩ := h.box;have hd := h.lt;obtain ⟨⟨a0,a1,a2,a3,a4⟩,_⟩ := row5 hbx;have hh := h.has name
 have hF : ∀ v c,Found D t name v c -> Hid (Found D t name v c) := fun v c h => ⟨h⟩
 clear a0 a1 a3 a4 hbx
 by_cases hm : D.may name name = 0
 · rw [hm] at hR;rcases hh with ⟨v,a,b,hf,hmem,hget⟩ | ⟨hf,hno,hget⟩
   · have HF := hF v 0 (.inr (.inr ⟨hm,by rw [hget],rfl,hmem,hget⟩))
     have hG := fun w' (hb : Below w.heap.size w w') => MapFl.get_yes t u name name v a b w' (hr.below hb (Nat.le_refl _)) hf
     clear hf hmem hget hr h hF
     go_enter Tryz.func141,Tryz.ntmps141
     go_wp2_with (first
      | (go_at_call 33
         refine (hR _ _ (by repeat (first | exact Below.refl _ _ | refine Below.alloc ?_ (by simp <;> omega) _)) (RStr.one _ _ _ _ _ (by simp))).mono ?_;rintro e w1 ⟨rfl,hb1⟩;have hb : Below w.heap.size w w1 := Tr.below_of hb1 (by repeat (first | exact Below.refl _ _ | refine Below.alloc ?_ (by simp <;> omega) _));have b2 := (hb.cell (p := ⟨d,2,none⟩) hd).trans a2;have hr1 := (hb1.block w.heap.size (by simp <;> omega)).trans ((Below.heap_alloc _ _ _ (by simp)).trans (heap_alloc_new _ _))
         have hz1 : w.heap.size < w1.heap.size := Go.Proofs.YtogbhedbgcmckaaGreat.hlt hr1)
      | (go_at_call 74
         refine (hG _ hb).mono ?_;rintro e w2 ⟨rfl,hb2⟩;have hbb : Below w.heap.size w w2 := hb.trans (hb2.mono hb.size);have hr2 := (hb2.block w.heap.size hz1).trans hr1;obtain ⟨⟨k0,k1⟩,⟨k2,k3⟩⟩ := row2 hr2
         have hz : w.heap.size < w2.heap.size := Go.Proofs.YtogbhedbgcmckaaGreat.hlt hr2)
      | fail)
     refine bodyPost_ret (qm (n := w.heap.size) rfl rfl (by first | exact (Below.heap_alloc _ _ _ (by simp; omega)).trans (qaq _ _ _ _ _ _ _ hr2) | exact qaq _ _ _ _ _ _ _ ((Below.heap_alloc _ _ _ (by omega)).trans hr2)) Tryz.underlying93 rfl (by kernel_rfl)) rfl ?_;exact ⟨v,0,rfl,HF.out,by repeat (first | exact hbb | refine Below.alloc ?_ (by simp <;> omega) _ | refine Below.setCell ?_ (by simp <;> omega) _)⟩
   · have HF := hF noFV 6 (.inr (.inl ⟨hm,by rw [hget],rfl,rfl⟩))
     have hG := fun w' (hb : Below w.heap.size w w') => MapFl.get_no t u name w' (hr.below hb (Nat.le_refl _)) hf
     clear hf hno hget hr h hF
     go_enter Tryz.func141,Tryz.ntmps141
     go_wp2_with (first
      | (go_at_call 33
         refine (hR _ _ (by repeat (first | exact Below.refl _ _ | refine Below.alloc ?_ (by simp <;> omega) _)) (RStr.one _ _ _ _ _ (by simp))).mono ?_;rintro e w1 ⟨rfl,hb1⟩;have hb : Below w.heap.size w w1 := Tr.below_of hb1 (by repeat (first | exact Below.refl _ _ | refine Below.alloc ?_ (by simp <;> omega) _));have b2 := (hb.cell (p := ⟨d,2,none⟩) hd).trans a2;have hr1 := (hb1.block w.heap.size (by simp <;> omega)).trans ((Below.heap_alloc _ _ _ (by simp)).trans (heap_alloc_new _ _))
         have hz1 : w.heap.size < w1.heap.size := Go.Proofs.YtogbhedbgcmckaaGreat.hlt hr1)
      | (go_at_call 74
         refine (hG _ hb).mono ?_;rintro e w2 ⟨rfl,hb2⟩;have hbb : Below w.heap.size w w2 := hb.trans (hb2.mono hb.size);have hr2 := (hb2.block w.heap.size hz1).trans hr1;obtain ⟨⟨k0,k1⟩,⟨k2,k3⟩⟩ := row2 hr2
         have hz : w.heap.size < w2.heap.size := Go.Proofs.YtogbhedbgcmckaaGreat.hlt hr2)
      | fail)
     refine bodyPost_ret (qm (n := w.heap.size) rfl rfl (by first | exact (Below.heap_alloc _ _ _ (by simp; omega)).trans (qaq _ _ _ _ _ _ _ hr2) | exact qaq _ _ _ _ _ _ _ ((Below.heap_alloc _ _ _ (by omega)).trans hr2)) Tryz.underlying93 rfl (by kernel_rfl)) rfl ?_;exact ⟨noFV,6,rfl,HF.out,by repeat (first | exact hbb | refine Below.alloc ?_ (by simp <;> omega) _ | refine Below.setCell ?_ (by simp <;> omega) _)⟩
 · have HF := hF noFV (D.may name name) (.inl ⟨hm,rfl,rfl⟩);generalize D.may name name = c at *;clear hh hr h hF
   have hm' : ¬ ((c : Int) = 0) := by omega
   go_enter Tryz.func141,Tryz.ntmps141
   go_wp2_with (first
    | (go_at_call 33
       refine (hR _ _ (by repeat (first | exact Below.refl _ _ | refine Below.alloc ?_ (by simp <;> omega) _)) (RStr.one _ _ _ _ _ (by simp))).mono ?_;rintro e w1 ⟨rfl,hb1⟩;have hb : Below w.heap.size w w1 := Tr.below_of hb1 (by repeat (first | exact Below.refl _ _ | refine Below.alloc ?_ (by simp <;> omega) _));have hr1 := (hb1.block w.heap.size (by simp <;> omega)).trans ((Below.heap_alloc _ _ _ (by simp)).trans (heap_alloc_new _ _));obtain ⟨⟨k0,k1⟩,⟨k2,k3⟩⟩ := row2 hr1
       have hz1 : w.heap.size < w1.heap.size := Go.Proofs.YtogbhedbgcmckaaGreat.hlt hr1)
    | fail)
   refine bodyPost_ret (qm (n := w.heap.size) rfl rfl (qaq _ _ _ _ _ _ _ hr1) Tryz.underlying93 rfl (by kernel_rfl)) rfl ?_;exact ⟨noFV,c,rfl,HF.out,by repeat (first | exact hb | refine Below.alloc ?_ (by simp <;> omega) _ | refine Below.setCell ?_ (by simp <;> omega) _)⟩
end Go.Proofs.YtogbhedbgcmckaaGreat
set_option linter.unusedVariables false
set_option linter.unusedSimpArgs false
set_option maxRecDepth 100000
set_option maxHeartbeats 2000000
namespace Go.Proofs.YtogbhedbgcmckaaGreat
open Go.RowKit
theorem Dt.gets {w : World} {d : Nat} {D : Dsk} {M Z : Nat -> Prop} {X : ByteArray -> Prop} {t : FT} (h : Dt w d D M Z X t) (name : ByteArray) :
 ∃ v ok,(getF D.l name).1.b.size = v.l.length /\ (getF D.l name).1.safe = v.safe /\ (ok = true -> (name,v) ∈ t.list) /\ (ok = false -> v = noFV) /\ (getF D.l name).2 = ok ∧
  ∀ (P : Nat -> Prop) (w' : World) (u : Option Addr),MapFl.Rp P w' u t -> Calls Tryz.prog 74 #[.agg #[.pointer u], .string name] w' fun e w'' => e = .returned (.tuple #[fvV v, .bool ok]) /\ Below w'.heap.size w' w'' := by
 rcases h.has name with ⟨v,a,b,hf,hmem,hget⟩ | ⟨hf,hno,hget⟩
 · refine ⟨v,true,by rw [hget]; rfl,by rw [hget]; rfl,(fun _ => hmem),(fun e => by cases e),by rw [hget],fun P w' u hr => MapFl.get_yes t u name name v a b w' hr hf⟩
 · exact ⟨noFV,false,by rw [hget]; rfl,by rw [hget]; rfl,(fun e => by cases e),(fun _ => rfl),by rw [hget],fun P w' u hr => MapFl.get_no t u name w' hr hf⟩
theorem qb9 (w : World) (d : Nat) (D : Dsk) (M Z : Nat -> Prop) (t : FT) (name : ByteArray) (v : FV) (h : Dt w d D M Z (· = name) t) (hM : ∀ k,M k -> k < w.heap.size)
 (hv : FRow w 0 v) (hvo : ∀ g,blk v = some g -> ¬ M g /\ ¬ Z g) (hva : ∀ p ∈ t.list,p.1 ≠ name -> ∀ g,blk v = some g -> blk p.2 ≠ some g)
 (hu : qo D.l <= 2000000000) (hvl : v.l.length <= 2000000000) (hs : t.size + 1 <= 4000000) :
 Calls Tryz.prog 37 #[.pointer (some ⟨d,0,none⟩), .string name,fvV v] w fun e w' => e = .returned (.tuple #[]) /\ ∃ t',Dt w' d { D with l := putF D.l (qj (name,v)) } M Z noX t' /\ (∀ p ∈ t'.list,p = (name,v) \/ (p ∈ t.list /\ p.1 ≠ name)) /\ (∀ p ∈ t.list,p.1 ≠ name -> p ∈ t'.list) /\ qa (· ≠ d) w w' := by
 obtain ⟨v0,ok,g1,_,_,_,_,hG⟩ := h.gets name;have hused := h.used (qj (name,v));have hfn : (qj (name,v)).name = name := rfl;have hfb : (qj (name,v)).b.size = v.l.length := rfl;rw [hfn,g1,hfb] at hused;obtain ⟨u,hbx,hr⟩ := h.box;have hd := h.lt;obtain ⟨⟨a0,a1,a2,a3,a4⟩,⟨f0,f1,f2,f3,f4⟩⟩ := row5 hbx;have hRp : ∀ w',qa (· ≠ d) w w' -> MapFl.Rp (Pn M w) w' u t := fun w' hk => qfj hbx (List.toList_toArray) hr hk;have e1 : IntKind.i64.wrap ((v.l.length : Int) - (v0.l.length : Int)) = (v.l.length : Int) - (v0.l.length : Int) := IntWalk.i64_in _ (by omega)
 have e2 : IntKind.i64.wrap ((qo D.l : Int) + ((v.l.length : Int) - (v0.l.length : Int))) = ((qo (putF D.l (qj (name,v))) : Nat) : Int) := by
  rw [IntWalk.i64_in _ (by omega)]; omega
 have hG' := fun w' (hb : Below w.heap.size w w') => hG (Pn M w) w' u (hr.below hb (Nat.le_refl _))
 clear hG g1 hused hfn hfb;have HX := Lib.hid hbx;have HD := Lib.hid h;have HV := Lib.hid hv;have HO := Lib.hid hvo;have HA := Lib.hid hva;have hbst := h.bst;have hfil := Lib.hid h.fil
 by_cases hz : v.l.length = 0
 · have hP := fun w' hk => MapFl.del_map t u name w' (hRp w' hk) hbst (by omega)
   have hz' : ((v.l.length : Int) == 0) = true := by simp [hz]
   have HZ := Lib.hid hz;clear hz
   have hL : ∀ t',(t' = Tr.del ltS t name /\ Tr.find ltS name t ≠ .nil \/ t' = t /\ Tr.find ltS name t = .nil) -> Hid (t'.list = Tr.delL ltS name t.list /\ Tr.Bst ltS t') := fun t' hh => ⟨by
    rcases hh with ⟨rfl,_⟩ | ⟨rfl,hn⟩
    · exact ⟨Tr.list_del linS t name hbst,hbst.del linS name⟩
    · refine ⟨?_,hbst⟩;have hno := Tr.find_mem linS name t' hbst hn;refine (List.filter_eq_self.2 fun p hp => ?_).symm
      cases h1 : ltS p.1 name with
      | true => rfl
      | false =>
        cases h2 : ltS name p.1 with
        | true => rfl
        | false => exact absurd (qa7 h1 h2) (hno p hp)⟩
   clear hRp hr hbx h hv hvo hva hbst
   go_enter Tryz.func37,Tryz.ntmps37
   go_wp2_with (first
    | (go_at_call 74
       refine (hG' _ (by repeat (first | exact Below.refl _ _ | refine Below.alloc ?_ (by simp <;> omega) _))).mono ?_;rintro e w1 ⟨rfl,hb1⟩;have hb : Below w.heap.size w w1 := Tr.below_of hb1 (by repeat (first | exact Below.refl _ _ | refine Below.alloc ?_ (by simp <;> omega) _));have b1 := (hb.cell (p := ⟨d,1,none⟩) hd).trans a1;have b2 := (hb.cell (p := ⟨d,2,none⟩) hd).trans a2;have q1 := (hb.frozen (p := ⟨d,1,none⟩) hd).trans f1;have q2 := (hb.frozen (p := ⟨d,2,none⟩) hd).trans f2;have hr1 := (hb1.block w.heap.size (by simp)).trans (heap_alloc_new _ _);obtain ⟨⟨k0,k1⟩,_⟩ := row2 hr1;have hz1 : w.heap.size < w1.heap.size := Go.Proofs.YtogbhedbgcmckaaGreat.hlt hr1
       have hd1 : d < w1.heap.size := Nat.lt_of_lt_of_le hd hb.size)
    | fail)
   go_region
   go_wp2_with fail
   generalize hW : World.drew _ = W2
   have kk : qa (· ≠ d) w W2 := by
    rw [<- hW];exact ((qb hb (Nat.le_refl _)).trans ((qx _).trans (qv _ _))).drew
   have hbx2 : W2.heap[d]? = some (.cells #[.int .i64 D.room, .int .i64 ((qo (putF D.l (qj (name,v))) : Nat) : Int), .pointer u, .int .i64 (qbD D), .bool D.lost] 88) := by
    rw [<- hW];refine (Below.heap_alloc _ _ _ (by simp; omega)).trans ?_;rw [setCell_at w1 ⟨d,1,none⟩ _ _ _ _ rfl ((hb.block d hd).trans HX.out)]
    rfl
   have hr2 : W2.heap[w.heap.size]? = some (.cells #[fvS v,fvN v] 93) := by
    rw [<- hW];exact (Below.heap_alloc _ _ _ (by simp; omega)).trans ((Below.heap_setCell _ _ _ _ (by show w.heap.size ≠ d; omega)).trans hr1)
   clear hW hb1 hb hr1 k0 k1 b1 b2 q1 q2 a0 a1 a2 a3 a4 f0 f1 f2 f3 f4 hz1 hd1 hG';obtain ⟨⟨a0,a1,a2,a3,a4⟩,⟨f0,f1,f2,f3,f4⟩⟩ := row5 hbx2;obtain ⟨⟨k0,k1⟩,_⟩ := row2 hr2;have hd2 : d < W2.heap.size := Go.Proofs.YtogbhedbgcmckaaGreat.hlt hbx2;have HK := Lib.hid kk;have HBX := Lib.hid hbx2;clear kk hbx2 hr2;refine (hP _ HK.out).mono ?_;rintro e w3 ⟨u1,t',rfl,hr3,ht',hb3⟩;have hbx3 := (hb3.block d hd2).trans HBX.out;obtain ⟨⟨p0,p1,p2,p3,p4⟩,⟨m0,m1,m2,m3,m4⟩⟩ := row5 hbx3;have kk := HK.out
   go_wp2_with fail
   refine bodyPost_end (results_none rfl _ _ _) rfl ?_;refine ⟨rfl,t',HD.out.fin (kk.trans ((qb hb3 (Nat.le_refl _)).trans (qx _))) hM (by rw [setCell_at w3 ⟨d,2,none⟩ _ _ _ _ rfl hbx3]; rfl) (hr3.setCell' hbx3) (hL t' ht').out.2 (by rw [(hL t' ht').out.1,qjI HD.out.bst name (qj (name,v)) rfl HZ.out,hfil.out]) (fun p hp => .inr (qfi ((hL t' ht').out.1 ▸ hp))) HV.out HO.out HA.out,(fun p hp => .inr (qfi ((hL t' ht').out.1 ▸ hp))),(fun p hp hn => by rw [(hL t' ht').out.1]; exact qkD hp hn),kk.trans ((qb hb3 (Nat.le_refl _)).trans (qx _))⟩
 · have hz' : ¬ ((v.l.length : Int) = 0) := by omega
   have hP := fun w' hk => MapFl.put_map t u name v w' (hRp w' hk) hs
   have hlp := Lib.hid (Tr.list_put linS name v t hbst);have hbp := Lib.hid (hbst.put linS name v);clear hRp hr hbx h hv hvo hva hbst
   go_enter Tryz.func37,Tryz.ntmps37
   go_wp2_with (first
    | (go_at_call 74
       refine (hG' _ (by repeat (first | exact Below.refl _ _ | refine Below.alloc ?_ (by simp <;> omega) _))).mono ?_;rintro e w1 ⟨rfl,hb1⟩;have hb : Below w.heap.size w w1 := Tr.below_of hb1 (by repeat (first | exact Below.refl _ _ | refine Below.alloc ?_ (by simp <;> omega) _));have b1 := (hb.cell (p := ⟨d,1,none⟩) hd).trans a1;have b2 := (hb.cell (p := ⟨d,2,none⟩) hd).trans a2;have q1 := (hb.frozen (p := ⟨d,1,none⟩) hd).trans f1;have q2 := (hb.frozen (p := ⟨d,2,none⟩) hd).trans f2;have hr1 := (hb1.block w.heap.size (by simp)).trans (heap_alloc_new _ _);obtain ⟨⟨k0,k1⟩,_⟩ := row2 hr1;have hz1 : w.heap.size < w1.heap.size := Go.Proofs.YtogbhedbgcmckaaGreat.hlt hr1
       have hd1 : d < w1.heap.size := Nat.lt_of_lt_of_le hd hb.size)
    | fail)
   go_region
   go_wp2_with fail
   generalize hW : World.drew _ = W2
   have kk : qa (· ≠ d) w W2 := by
    rw [<- hW];exact ((qb hb (Nat.le_refl _)).trans ((qx _).trans (qv _ _))).drew
   have hbx2 : W2.heap[d]? = some (.cells #[.int .i64 D.room, .int .i64 ((qo (putF D.l (qj (name,v))) : Nat) : Int), .pointer u, .int .i64 (qbD D), .bool D.lost] 88) := by
    rw [<- hW];refine (Below.heap_alloc _ _ _ (by simp; omega)).trans ?_;rw [setCell_at w1 ⟨d,1,none⟩ _ _ _ _ rfl ((hb.block d hd).trans HX.out)]
    rfl
   have hr2 : W2.heap[w.heap.size]? = some (.cells #[fvS v,fvN v] 93) := by
    rw [<- hW];exact (Below.heap_alloc _ _ _ (by simp; omega)).trans ((Below.heap_setCell _ _ _ _ (by show w.heap.size ≠ d; omega)).trans hr1)
   clear hW hb1 hb hr1 k0 k1 b1 b2 q1 q2 a0 a1 a2 a3 a4 f0 f1 f2 f3 f4 hz1 hd1 hG';obtain ⟨⟨a0,a1,a2,a3,a4⟩,⟨f0,f1,f2,f3,f4⟩⟩ := row5 hbx2;obtain ⟨⟨k0,k1⟩,_⟩ := row2 hr2;have hd2 : d < W2.heap.size := Go.Proofs.YtogbhedbgcmckaaGreat.hlt hbx2;have HK := Lib.hid kk;have HBX := Lib.hid hbx2;clear kk hbx2 hr2
   go_region_with (first
    | (go_at_call 76
       refine (hP _ (by first | exact HK.out | exact HK.out.drew)).mono ?_;rintro e w3 ⟨u1,rfl,hr3,hb3⟩;have hbx3 := (hb3.block d hd2).trans HBX.out
       obtain ⟨⟨p0,p1,p2,p3,p4⟩,⟨m0,m1,m2,m3,m4⟩⟩ := row5 hbx3)
    | fail)
   all_goals
    have kk := HK.out.drew
    go_wp2_with fail
    refine bodyPost_end (results_none rfl _ _ _) rfl ?_;refine ⟨rfl,_,HD.out.fin (kk.trans ((qb hb3 (Nat.le_refl _)).trans (qx _))) hM (by rw [setCell_at w3 ⟨d,2,none⟩ _ _ _ _ rfl hbx3]; rfl) (hr3.setCell' hbx3) hbp.out (by rw [hlp.out,qjH _ _ _ (Nat.pos_of_ne_zero hz),hfil.out]) (fun p hp => qfh (hlp.out ▸ hp)) HV.out HO.out HA.out,(fun p hp => qfh (hlp.out ▸ hp)),(fun p hp hn => by rw [hlp.out]; exact qkC hp hn),kk.trans ((qb hb3 (Nat.le_refl _)).trans (qx _))⟩
end Go.Proofs.YtogbhedbgcmckaaGreat
set_option linter.unusedVariables false
set_option linter.unusedSimpArgs false
set_option maxRecDepth 100000
set_option maxHeartbeats 2000000
namespace Go.Proofs.YtogbhedbgcmckaaGreat
open Go.RowKit
theorem Dt.weak {w : World} {d : Nat} {D : Dsk} {M Z : Nat -> Prop} {t : FT} (h : Dt w d D M Z noX t) (X : ByteArray -> Prop) : Dt w d D M Z X t :=
 ⟨h.box,h.bst,h.fil,fun p hp _ => h.row p hp (fun h => h),fun a ha b hb hab _ _ => h.apart a ha b hb hab (fun h => h) (fun h => h),h.own⟩
theorem FRow.capMax {w : World} {base : Nat} {v : FV} (h : FRow w base v) : v.cap <= maxLen := by
 rcases h.2 with ⟨e,h0⟩ | ⟨g,cap,cur,e,hb,hg,hc,hm,_⟩
 · injection e with _ _ e3;rw [e3]; exact Nat.zero_le _
 · injection e with _ _ e3;rw [e3]; exact hm
theorem Dt.len {w : World} {d : Nat} {D : Dsk} {M Z : Nat -> Prop} {X : ByteArray -> Prop} {t : FT} (h : Dt w d D M Z X t) {name : ByteArray} {v : FV} (hm : (name,v) ∈ t.list) : v.l.length <= qo D.l := by
 have := h.used ⟨name,ByteArray.empty,0⟩;rw [h.get hm] at this;have e : (qj (name,v)).b.size = v.l.length := rfl;dsimp only at this;rw [e] at this;have : (ByteArray.empty).size = 0 := rfl;omega
theorem qip (D : Dsk) : D.burn.l = D.l := by unfold Dsk.burn; split <;> (try split) <;> rfl
theorem qhd (l : List Fil) (f g : Fil) (hn : g.name = f.name) (hg : g.b.size = 0) : putF (putF l g) f = putF l f := by
 have h1 : ∀ l : List Fil,(l.filter (fun x => ltS x.name f.name)).filter (fun x => ltS x.name f.name) = l.filter (fun x => ltS x.name f.name) := fun l => by simp
 have h2 : ∀ l : List Fil,(l.filter (fun x => ltS f.name x.name)).filter (fun x => ltS f.name x.name) = l.filter (fun x => ltS f.name x.name) := fun l => by simp
 have h3 : ∀ l : List Fil,(l.filter (fun x => ltS f.name x.name)).filter (fun x => ltS x.name f.name) = [] := fun l => List.filter_eq_nil_iff.2 fun x hx => by
  rw [qak (List.mem_filter.1 hx).2]; decide
 have h4 : ∀ l : List Fil,(l.filter (fun x => ltS x.name f.name)).filter (fun x => ltS f.name x.name) = [] := fun l => List.filter_eq_nil_iff.2 fun x hx => by
  rw [qak (List.mem_filter.1 hx).2]; decide
 unfold putF;rw [hn,if_neg (by omega)];simp only [List.nil_append,List.filter_append,h1,h2,h3,h4,List.append_nil]
theorem qdZ (D : Dsk) (f : Fil) (name : ByteArray) (h : ¬ D.burn.lost = true) (hn : f.name = name) : D.done f name = ({ D.burn with l := putF D.burn.l f },0) := by
 rw [Dsk.done,if_neg h,qhd _ f ⟨name,ByteArray.empty,0⟩ hn.symm rfl]
theorem qc1 (D : Dsk) (f : Fil) (name : ByteArray) (h : D.burn.lost = true) : D.done f name = (D.burn,5) := by simp [Dsk.done,h]
theorem Dt.pre {w w1 : World} {d : Nat} {D : Dsk} {M Z : Nat -> Prop} {t : FT} (h : Dt w d D M Z noX t) (hM : ∀ k,M k -> k < w.heap.size) (hZ : ∀ k,Z k -> k < w.heap.size) {name : ByteArray} {v v' : FV} (hm : (name,v) ∈ t.list)
 (hvb : ∀ g,blk v' = some g -> blk v = some g \/ w.heap.size <= g) : (∀ g,blk v' = some g -> ¬ M g /\ ¬ Z g) /\ (∀ p ∈ t.list,p.1 ≠ name -> ∀ g,blk v' = some g -> blk p.2 ≠ some g) := by
 refine ⟨fun g hg => ?_,fun p hp hne g hg e => ?_⟩
 · rcases hvb g hg with hg | hg
   · exact (h.row _ hm (fun h => h)).out g hg
   · exact ⟨fun e => by have := hM g e; omega,fun e => by have := hZ g e; omega⟩
 · rcases hvb g hg with hg | hg
   · exact h.apart _ hm p hp (fun e => hne e.symm) (fun h => h) (fun h => h) g hg e
   · have := (h.row p hp (fun h => h)).lt e;omega
def DkG (w : World) (d : Nat) (D : Dsk) (M Z : Nat -> Prop) : Prop := ∃ t,Dt w d D M Z noX t
theorem DkG.below {w w' : World} {d : Nat} {D : Dsk} {M Z : Nat -> Prop} (h : DkG w d D M Z) (hb : Below w.heap.size w w') : DkG w' d D M Z := by
 obtain ⟨t,h⟩ := h;exact ⟨t,h.below hb⟩
theorem qdr (w w1 : World) (d : Nat) (D : Dsk) (M Z : Nat -> Prop) (t : FT) (name : ByteArray) (v v' : FV) (h : Dt w d D M Z noX t) (hb : Below w.heap.size w w1) (hg : Good D) (hM : ∀ k,M k -> k < w.heap.size) (hZ : ∀ k,Z k -> k < w.heap.size)
 (hm : (name,v) ∈ t.list) (hv : FRow w1 0 v') (hvb : ∀ g,blk v' = some g -> blk v = some g \/ w.heap.size <= g) (hvl : v'.l.length <= 2000000000) :
 Calls Tryz.prog 37 #[.pointer (some ⟨d,0,none⟩), .string name,fvV v'] w1 fun e w' => e = .returned (.tuple #[]) /\ DkG w' d { D with l := putF D.l (qj (name,v')) } M Z /\ qa (· ≠ d) w w' := by
 obtain ⟨h1,h2⟩ := h.pre (w1 := w1) hM hZ hm hvb;have hlen := hg.len;have hsz := h.size;have hu := hg.usedN;refine (qb9 w1 d D M Z t name v' ((h.below hb).weak _) (fun k hk => Nat.lt_of_lt_of_le (hM k hk) hb.size) hv h1 h2 (by omega) hvl (by omega)).mono ?_;rintro e w' ⟨rfl,t',hD,_,_,hk⟩;exact ⟨rfl,⟨t',hD⟩,(qb hb (Nat.le_refl _)).trans hk⟩
theorem qdF (w : World) (d : Nat) (D : Dsk) (M Z : Nat -> Prop) (t : FT) (name : ByteArray) (v : FV) (n : Nat) (h : Dt w d D M Z noX t) (hg : Good D) (hm : (name,v) ∈ t.list) (hn : n <= v.l.length) :
 Calls Tryz.prog 38 #[fvV v, .int .i64 (n : Int)] w fun e w' => ∃ v',e = .returned (fvV v') /\ v'.l = v.l.take n /\ v'.safe = n /\ FRow w' 0 v' ∧
  (∀ g,blk v' = some g -> blk v = some g \/ w.heap.size <= g) /\ Below w.heap.size w w' := by
 have hr := h.row _ hm (fun h => h);have := h.len hm;have := hg.usedN;exact qef v n w hr.own hn (by omega) hr.own.capMax
theorem qjK (w : World) (d : Nat) (D : Dsk) (M Z : Nat -> Prop) (name : ByteArray) (h : DkG w d D M Z) (hg : Good D) (hM : ∀ k,M k -> k < w.heap.size) (hZ : ∀ k,Z k -> k < w.heap.size) :
 Calls Tryz.prog 162 #[.pointer (some ⟨d,0,none⟩), .string name] w fun e w' => e = .returned (.int .i64 (((D.sync name).2 : Nat) : Int)) /\ DkG w' d (D.sync name).1 M Z /\ qa (· ≠ d) w w' := by
 obtain ⟨t,h⟩ := h;have HD := Lib.hid h
 go_enter Tryz.func162,Tryz.ntmps162
 go_wp2_with fail
 refine (qbh w d D M Z noX t h name).mono ?_;clear h;rintro e w1 ⟨v,c,rfl,hF,hb1⟩;have hb : Below w.heap.size w (w1.alloc (.cells #[fvS v,fvN v] 93)) := hb1.alloc hb1.size _;have hD := HD.out.below hb;have hk := Lib.hid (qb (Z := (· ≠ d)) hb (Nat.le_refl _));rcases hF with ⟨hm,rfl,rfl⟩ | ⟨hm,hget,rfl,rfl⟩ | ⟨hm,hget2,rfl,hmem,hget⟩
 · have HS : Hid (D.sync name = (D,D.may name name)) := ⟨by simp [Dsk.sync,hm]⟩;have HX := Lib.hid hD;clear hD;generalize D.may name name = c at *
   have hm' : ¬ ((c : Int) = 0) := by omega
   go_wp2;go_ret;exact ⟨by rw [HS.out]; rfl,by rw [HS.out]; exact ⟨t,HX.out⟩,hk.out⟩
 · have HS : Hid (D.sync name = (D,6)) := ⟨by simp [Dsk.sync,hm,hget]⟩;have HX := Lib.hid hD;clear hD;go_wp2;go_ret;exact ⟨by rw [HS.out]; rfl,by rw [HS.out]; exact ⟨t,HX.out⟩,hk.out⟩
 · have hlost := (qaK (D := D) (a := name) (b := name) (fun e => e hm)).1
   have hs : D.sync name = D.done (qj (name,{ v with safe := v.l.length })) name := by
    simp only [Dsk.sync,hm,hget]
    rfl
   have hd := HD.out.lt;have hbox : (w1.alloc (.cells #[fvS v,fvN v] 93)).heap[w1.heap.size]? = some (.cells #[fvS v,fvN v] 93) := heap_alloc_new _ _
   have hne : w1.heap.size ≠ d := by have := hb1.size; omega
   go_wp2_with fail
   refine (qbg _ d D M Z noX t hD hg hlost).mono ?_;rintro e w3 ⟨rfl,hD3,hk3⟩;have hbox3 := (hk3.block w1.heap.size (Go.Proofs.YtogbhedbgcmckaaGreat.hlt hbox) hne).trans hbox;obtain ⟨⟨k0,k1⟩,_⟩ := row2 hbox3;have hsz := hk3.size;have hkk := Lib.hid (hk.out.trans hk3);have hsw : w.heap.size <= w3.heap.size := hkk.out.size;clear hD hbox hk
   by_cases hbl : D.burn.lost = true
   · rw [if_pos hbl];have HS : Hid (D.sync name = (D.burn,5)) := ⟨by rw [hs,qc1 D _ name hbl]⟩;have HX := Lib.hid hD3;clear hD3;go_wp2;go_ret;exact ⟨by rw [HS.out]; rfl,by rw [HS.out]; exact ⟨t,HX.out⟩,hkk.out⟩
   · rw [if_neg hbl];have HS : Hid (D.sync name = ({ D.burn with l := putF D.burn.l (qj (name,{ v with safe := v.l.length })) },0)) := ⟨by rw [hs,qdZ D _ name hbl rfl]⟩;have hFi := qdF w3 d D.burn M Z t name v v.l.length hD3 hg.burn hmem (Nat.le_refl _)
     have hSe := fun w4 v' hb hv hvb hl => qdr w3 w4 d D.burn M Z t name v v' hD3 hb hg.burn (fun k hk => Nat.lt_of_lt_of_le (hM k hk) hsw) (fun k hk => Nat.lt_of_lt_of_le (hZ k hk) hsw) hmem hv hvb hl
     have hvl : v.l.length <= 1048576 := by have := HD.out.len hmem; have := hg.usedN; omega
     clear hD3 hmem hget hbl hs
     go_wp2_with (first
      | (go_at_call 38
         refine hFi.mono ?_;rintro e w4 ⟨v',rfl,hl',hs',hv',hvb,hb4⟩;rw [List.take_length] at hl'
         have hfo : qj (name,v') = qj (name,{ v with safe := v.l.length }) := by simp only [qj,hl',hs']
         have hSe' := hSe w4 v' hb4 hv' hvb (by rw [hl']; omega)
         rw [hfo] at hSe')
      | (go_at_call 37
         refine hSe'.mono ?_;rintro e w5 ⟨rfl,hD5,hk5⟩;have HD5 := Lib.hid hD5;have HK5 := Lib.hid (hkk.out.trans hk5)
         clear hD5 hk5 hSe' hSe hFi)
      | fail)
     go_ret;exact ⟨by rw [HS.out]; rfl,by rw [HS.out]; exact HD5.out,HK5.out⟩
end Go.Proofs.YtogbhedbgcmckaaGreat
