/- small, Alike, Texts of the laws, each by its contract. -/
import Derived.Test.YtmeoooojmhhahaaGreatTWalP
import Derived.Test.YtmeoooojmhhahaaGreatRows
import Derived.Test.YtmeoooojmhhahaaGreatTOct
set_option linter.unusedVariables false
set_option linter.unusedSimpArgs false
set_option maxRecDepth 100000
set_option maxHeartbeats 3200000
namespace Go.Proofs.YtmeoooojmhhahaaGreat
open Go.RowKit
end Go.Proofs.YtmeoooojmhhahaaGreat
namespace Go.Proofs.YtmeoooojmhhahaaGreat
open Go.RowKit
theorem qmb {R S : ByteArray} (h : R ≠ S) : (R.toList == S.toList) = false := beq_eq_false_iff_ne.2 fun e => h (by
 rw [ByteArray.toList_eq,ByteArray.toList_eq] at e
 exact WideShapes.bytes_inj e)
end Go.Proofs.YtmeoooojmhhahaaGreat
namespace Go.Proofs.YtmeoooojmhhahaaGreat
open Go.RowKit
theorem qgo (s : Nat) (A : Option Addr) (len cap : Nat) (l : List UInt8) (w : World) (h : s < 4294967296) (hl : Lies w A len cap l) (hm : len <= maxLen) :
 Calls Tryz.prog 122 #[.int .u32 (s : Int), .slice A len cap] w fun e w' => e = .returned (.int .u32 ((moreN s l : Nat) : Int)) /\ w = w' := by
 unfold maxLen at hm
 have hx := xorF s h
 have hc0 := qco s 4294967295 h (by decide)
 have HM : Hid (moreN s l = qag l (s ^^^ 4294967295) ^^^ 4294967295) := ⟨rfl⟩
 generalize hc : s ^^^ 4294967295 = c at hx hc0 HM
 generalize moreN s l = m at HM ⊢
 clear hc
 go_enter Tryz.func122,Tryz.ntmps122
 go_wp2
 clear hx
 go_loop [5,12] (fun r i => ∃ k : Nat,k <= len /\ i = .int .i64 (k : Int) /\ r = .int .u32 ((qag (l.take k) c : Nat) : Int)) (fun _ i => len - (intOf i).toNat)
 case atStart => exact ⟨0,by omega,rfl,rfl⟩
 case round =>
  obtain ⟨k,hk,rfl,rfl⟩ := hrel
  have hr := qeC (l.take k) c hc0
  have hll := hl.1
  by_cases hlt : k < len
  · have HS := qhj l k c (by omega)
    obtain ⟨g,off,rfl,_,hcell⟩ := hl.cell k (by omega)
    have hb := (l[k]).toNat_lt
    generalize l[k] = b at *
    have hx := u32_xor_nat (qag (l.take k) c) b.toNat hr (by omega)
    have HS2 : Hid (qag (l.take (k + 1)) c = bitsN 8 (qag (l.take k) c ^^^ b.toNat)) := ⟨HS⟩
    have hr2 := qco _ b.toNat hr (by omega)
    have hb0 : (b.toNat : Int) % 4294967296 = (b.toNat : Int) := by omega
    have hb1 : (b.toNat : Int) <= 255 := by omega
    clear HS hll
    generalize qag (l.take k) c = q at *
    go_wp2
    clear hx
    generalize q ^^^ b.toNat = x at *
    go_loop [5,22] (fun r i => ∃ j : Nat,j <= 8 /\ i = .int .i64 (j : Int) /\ r = .int .u32 ((bitsN j x : Nat) : Int)) (fun _ i => 8 - (intOf i).toNat)
    case atStart => exact ⟨0,by omega,rfl,rfl⟩
    case round =>
     obtain ⟨j,hj,rfl,rfl⟩ := hrel
     have hy := qeB j x hr2
     have HJ : Hid (bitsN (j + 1) x = bit1 (bitsN j x)) := ⟨rfl⟩
     by_cases hjl : j < 8
     · generalize hq : bitsN j x = y at *
       clear hq
       have e2 : ((y / 2 : Nat) : Int) = (y : Int) / 2 := by omega
       by_cases hm1 : y % 2 = 1
       · have hx := xorP (y / 2) (by omega)
         rw [e2] at hx
         have ha : (y : Int) % 2 = 1 := by omega
         go_wp2
         go_round
         case rel => exact ⟨j + 1,by omega,by go_num,by rw [HJ.out,bit1,if_pos hm1]⟩
         case measure => simp [intOf]; omega
       · have ha : (y : Int) % 2 = 0 := by omega
         go_wp2
         go_round
         case rel => exact ⟨j + 1,by omega,by go_num,by rw [HJ.out,bit1,if_neg hm1,e2]⟩
         case measure => simp [intOf]; omega
     · obtain rfl : j = 8 := by omega
       go_wp2
       go_round
       case rel => exact ⟨k + 1,by omega,by go_num,by rw [HS2.out]⟩
       case measure => simp [intOf]; omega
  · obtain rfl : k = len := by omega
    have hq : Hid (qag (l.take k) c = qag l c) := ⟨by rw [List.take_of_length_le (by omega)]⟩
    have hx := xorF _ hr
    clear hll
    go_wp2
    go_ret
    exact ⟨by rw [HM.out,hq.out]; rfl,rfl⟩
theorem qlT (A : Option Addr) (len cap : Nat) (l : List UInt8) (w : World) (hl : Lies w A len cap l) (hm : len <= maxLen) :
 Calls Tryz.prog 123 #[.slice A len cap] w fun e w' => e = .returned (.int .u32 ((moreN 0 l : Nat) : Int)) /\ w = w' := by
 have hC := fun w hl => qgo 0 A len cap l w (by decide) hl hm
 generalize moreN 0 l = m at hC ⊢
 go_enter Tryz.func123,Tryz.ntmps123
 go_wp2_with (go_at_call 122; refine (hC _ hl).mono ?_; rintro e w2 ⟨rfl,rfl⟩)
 go_ret
 exact ⟨rfl,rfl⟩
end Go.Proofs.YtmeoooojmhhahaaGreat
namespace Go.Proofs.YtmeoooojmhhahaaGreat
open Go.RowKit
abbrev btl (s : ByteArray) : List UInt8 := s.data.toList
theorem qef (a b : ByteArray) : btl (a ++ b) = btl a ++ btl b := by
 simp [btl,ByteArray.toList_data_append]
theorem qks (l : List UInt8) : ∃ t : ByteArray,(⟨l.toArray⟩ : ByteArray) = t /\ btl t = l /\ t.size = l.length := ⟨_,rfl,rfl,rfl⟩
theorem qfy (s : ByteArray) (hs : s.size <= 1000000) (w : World) :
 Calls Tryz.prog 62 #[.string s] w fun e w' => ∃ t,e = .returned (.string t) /\ btl t = frameL (btl s) /\ Below w.heap.size w w' := by
 have hW := qcJ s.size (by omega) 4 (by omega) w
 have hsl : (btl s).length = s.size := by simp [btl]
 have hlit : IntKind.u64.wrap (s.size : Int) = (s.size : Int) := IntWalk.u64_in _ (by omega)
 have hO := fun (A : Option Addr) (cap : Nat) (w : World) (h : Lies w A 4 cap (wide s.size 4)) => qlT A 4 cap (wide s.size 4) w h (by unfold maxLen; omega)
 have hF : Hid (frameL (btl s) = wide s.size 4 ++ (wide (moreN (moreN 0 (wide s.size 4)) (btl s)) 4 ++ btl s)) := ⟨by unfold frameL sumL; rw [hsl]⟩
 have hlt1 := qbt 0 (wide s.size 4) (by omega)
 generalize moreN 0 (wide s.size 4) = q at hO hF hlt1
 have hM := fun (A : Option Addr) (cap : Nat) (w : World) (h : Lies w A s.size cap (btl s)) => qgo q A s.size cap (btl s) w hlt1 h (by unfold maxLen; omega)
 have hlt2 := qbt q (btl s) hlt1
 generalize moreN q (btl s) = q2 at hM hF hlt2
 have hW2 := fun w => qcJ q2 (by omega) 4 (by omega) w
 have hlit2 : IntKind.u64.wrap (q2 : Int) = (q2 : Int) := IntWalk.u64_in _ (by omega)
 obtain ⟨t1,et1,bt1,st1⟩ := qks (wide s.size 4)
 obtain ⟨t2,et2,bt2,st2⟩ := qks (wide q2 4)
 rw [qc0] at st1 st2
 have hn1 : ¬ ((9223372036854775807 : Nat) < t1.size + t2.size) := by omega
 have hn2 : ¬ ((9223372036854775807 : Nat) < t1.size + t2.size + s.size) := by omega
 have hn3 : ¬ ((9223372036854775807 : Nat) < (t1 ++ t2).size + s.size) := by rw [ByteArray.size_append]; omega
 go_enter Tryz.func62,Tryz.ntmps62
 go_wp2_with (go_at_call 121
              refine hW.mono ?_
              rintro e w1 ⟨A,cap,rfl,ho,hb⟩)
 obtain ⟨A',cap',he',hl1,_⟩ := qq ho
 rw [qc0] at he' hl1
 injection he' with e1 e2 e3
 subst e1 e3
 clear e2 ho hW
 have hTx : ∀ w',Below w1.heap.size w1 w' -> (convert 33 9 (.slice A 4 cap)).run Tryz.prog w' = .ok (.string t1) w' := fun w' h => et1 ▸ (hl1.below h nlq).text Tryz.underlying33 Tryz.underlying5 Tryz.underlying9
 obtain ⟨c,W',hcv,hl2,hbW,hsW⟩ := qbD w1.drew s
 have hq0 : Below w1.heap.size w1 w1.drew := blq.drew
 have hq1 : Below w1.heap.size w1 W' := hq0.trans hbW
 change (convert 9 33 (.string s)).run Tryz.prog w1.drew = .ok (.slice (some ⟨w1.heap.size,0,none⟩) s.size c) W' at hcv
 change Lies W' (some ⟨w1.heap.size,0,none⟩) s.size c (btl s) at hl2
 have ht1 := hTx _ hq0
 have ht2 := hTx _ hq1
 go_region_with (first
  | (go_at_call 123; refine (hO _ _ _ (by first | exact hl1.below hq0 nlq | exact hl1.below hq1 nlq)).mono ?_; rintro e wx ⟨rfl,rfl⟩)
  | (go_at_call 122; refine (hM _ _ _ hl2).mono ?_; rintro e wx ⟨rfl,rfl⟩)
  | (go_at_call 121
     refine (hW2 _).mono ?_
     rintro e w3 ⟨A3,cap3,rfl,ho3,hb3⟩
     have hq2 : Below w1.heap.size w1 w3 := hq1.trans (hb3.mono hq1.size)
     obtain ⟨A3',cap3',he',hl3,_⟩ := qq ho3
     rw [qc0] at he' hl3
     injection he' with e1 e2 e3
     subst e1 e3
     have ht3 := hl3.text Tryz.underlying33 Tryz.underlying5 Tryz.underlying9
     rw [et2] at ht3
     have ht4 := hTx _ hq2))
 all_goals
  go_wp2
  go_ret
  refine ⟨_,rfl,?_,hb.trans (hq2.mono hb.size)⟩
  rw [hF.out,qef,qef,bt1,bt2,List.append_assoc]
end Go.Proofs.YtmeoooojmhhahaaGreat
namespace Go.Proofs.YtmeoooojmhhahaaGreat
open Go.RowKit
theorem qlq : (Tryz.prog.info? 9).map (fun i => (i.zero,i.size,i.bytes)) = some (some (.string ⟨#[]⟩),1,16) := by kernel_rfl
theorem qcC (s : ByteArray) (a b : Nat) : btl (s.extract a b) = part (btl s) a b := ext_list s a b
theorem qC (s : ByteArray) : (btl s).length = s.size := qcI s
theorem qie (A : Option Addr) (cap : Nat) (l : List UInt8) (hl : l.length = 4) (w : World) (h : Lies w A 4 cap l) :
 Calls Tryz.prog 141 #[.agg #[.slice A 4 cap, .bool false], .int .i64 4] w fun e w' => ∃ A' cap',e = .returned (.tuple #[.int .u64 ((num l : Nat) : Int), .agg #[.slice A' 0 cap', .bool false]]) /\ Below w.heap.size w w' := by
 have h4 : left (some l) = 4 := hl
 have := qbX A cap (some l) w 4 (by omega) (by unfold qp; rw [h4]; exact h)
 have e1 : takeN (some l) 4 = (l,some []) := by
  simp only [takeN,if_pos (Nat.le_of_eq hl.symm)]
  rw [List.take_of_length_le (by omega),List.drop_eq_nil_of_le (by omega)]
 simp only [inv,h4,numberN,e1,Option.isNone] at this
 exact this.mono fun e w' ⟨A',cap',h1,_,h2⟩ => ⟨A',cap',h1,h2⟩
structure qbM (w wr : World) (s : ByteArray) (k : Nat) (ts : List ByteArray) (v : Value) : Prop where
 told : Told (btl s) k (ts.map btl)
 many : 8 * ts.length <= k
 row : wr.ownsRow w.heap.size 9 1 v ts.length (ts.map fun p => .string p)
 below : Below w.heap.size w wr
 form : ∃ A cap,v = .slice A ts.length cap
theorem hidden {p : Prop} (h : p) : Hid p := ⟨h⟩
theorem qa0 {p : Prop} (h : Hid p) : p := h.out
theorem qcl {a b : ByteArray} (h : btl a = btl b) : a = b := by
 obtain ⟨a⟩ := a
 obtain ⟨b⟩ := b
 exact congrArg ByteArray.mk (Array.toList_inj.1 h)
theorem qfz (s : ByteArray) (hs : s.size <= 1000000) : ∃ T : ByteArray,btl T = frameL (btl s) /\ ∀ W,Calls Tryz.prog 62 #[.string s] W fun e w' => e = .returned (.string T) /\ Below W.heap.size W w' := by
 refine ⟨⟨(frameL (btl s)).toArray⟩,rfl,fun W => (qfy s hs W).mono ?_⟩
 rintro e w' ⟨t,rfl,ht,hb⟩
 refine ⟨?_,hb⟩
 rw [qcl (b := ⟨(frameL (btl s)).toArray⟩) ht]
def qcf (s : ByteArray) (w : World) (e : Ending) (w' : World) : Prop :=
 ∃ (v : Value) (ts : List ByteArray),e = .returned (.tuple #[v, .int .i64 (((qv (btl s)).2 : Nat) : Int)]) /\ w'.ownsRow w.heap.size 9 1 v ts.length (ts.map fun p => .string p) /\ ts.map btl = (qv (btl s)).1 /\ Below w.heap.size w w'
theorem qcf.of {s : ByteArray} {w w' : World} {k : Nat} {ts : List ByteArray} {v : Value} (h : qbM w w' s k ts v) (hs : qv ((btl s).drop k) = ([],0)) : qcf s w (.returned (.tuple #[v, .int .i64 (k : Int)])) w' := by
 have hd := h.told.done hs
 refine ⟨v,ts,?_,h.row,?_,h.below⟩
 · rw [hd]
 · rw [hd]
theorem qbM.keep {w wr w' : World} {s : ByteArray} {k : Nat} {ts : List ByteArray} {v : Value} (h : qbM w wr s k ts v) (hb : Below wr.heap.size wr w') : qbM w w' s k ts v := by
 refine ⟨h.told,h.many,?_,h.below.trans (hb.mono h.below.size),h.form⟩
 rcases h.row.2 with ⟨e,h0⟩ | ⟨g,cap,cur,e,hb',hg,r⟩
 · exact ⟨h.row.1, .inl ⟨e,h0⟩⟩
 · exact ⟨h.row.1, .inr ⟨g,cap,cur,e,hb',(hb.block g (hlt hg)).trans hg,r⟩⟩
theorem qgp (s : ByteArray) (hs : s.size <= 1000000) (w : World) :
 Calls Tryz.prog 95 #[.string s] w (qcf s w) := by
 have hT0 : qbM w w s 0 [] (.slice none 0 0) := ⟨Told.start _,nlq,World.ownsRow_nil _ _ _ _,blq,⟨_,_,rfl⟩⟩
 go_enter Tryz.func95,Tryz.ntmps95
 go_wp2
 go_loopg [4,5,6,7,8,9] s.size (fun g v a x6 x7 x8 x9 wr => ∃ (k : Nat) (ts : List ByteArray),a = .int .i64 (k : Int) /\ k + g = s.size /\ qbM w wr s k ts v)
 case atStart => exact ⟨0,[],rfl,by omega,hT0⟩
 case round =>
  clear hT0
  obtain ⟨k,ts,rfl,hk,hT⟩ := hrel
  obtain ⟨A0,cap0,rfl⟩ := hT.form
  obtain ⟨i0,hi0,hz0,hz1,hz2⟩ := info_parts qlq
  obtain ⟨m,hm⟩ : ∃ m : Nat,s.size = k + m := ⟨s.size - k,by omega⟩
  have hw1 : IntKind.i64.wrap ((s.size : Int) - (k : Int)) = (m : Int) := by rw [IntWalk.i64_in _ (by omega)]; omega
  by_cases hlt : k + 8 <= s.size
  · have hlt' : (8 : Int) <= (m : Int) := by omega
    have hw2 : IntKind.i64.wrap ((k : Int) + 4) = (k : Int) + 4 := IntWalk.i64_in _ (by omega)
    have hk0 : (0 : Int) <= (k : Int) := by omega
    have hk1 : (k : Int) <= (k : Int) + 4 := by omega
    have hk2 : (k : Int) + 4 <= (s.size : Int) := by omega
    have hkn : ((k : Int) + 4).toNat = k + 4 := by omega
    obtain ⟨c,W',hcv,hl2,hbW,hsW⟩ := qbD wr (s.extract k (k + 4))
    have hz4 : (s.extract k (k + 4)).size = 4 := by rw [ByteArray.size_extract]; omega
    rw [hz4] at hcv hl2
    have hb4 : (btl (s.extract k (k + 4))).length = 4 := by rw [qC,hz4]
    change Lies W' (some ⟨wr.heap.size,0,none⟩) 4 c (btl (s.extract k (k + 4))) at hl2
    have hN := fun (W : World) (h : Below W'.heap.size W' W) => qie _ c _ hb4 W (hl2.below h nlq)
    have hnum : Hid (num (part (btl s) k (k + 4)) = num (btl (s.extract k (k + 4)))) := ⟨by rw [qcC]⟩
    have hnlt := qdc (btl (s.extract k (k + 4)))
    rw [hb4] at hnlt
    generalize num (btl (s.extract k (k + 4))) = n at hN hnum hnlt
    have hnlt2 : (n : Int) < 4294967296 := by omega
    clear hnlt hb4 hz4 hl2
    by_cases h6 : 60000 < n
    · have h6' : (60000 : Int) < (n : Int) := by omega
      have HE := hidden (qe2 (btl s) k n (by rw [qC]; omega) hnum.out (.inl h6))
      have HT := hidden hT
      clear hT hnum hk hm
      go_wp2_with (first
       | (go_at_call 141
          refine (hN _ (by first | exact blq.alloc nlq _ | exact (blq.alloc nlq _).drew)).mono ?_
          rintro e w3 ⟨A3,cap3,rfl,hb3⟩)
       | fail)
      refine bodyPost_ret (results_tmp2 rfl _ _ _) rfl ?_
      exact qcf.of (HT.out.keep ((hbW.alloc hbW.size _).trans ((hb3.mono (by simp; omega)).alloc (by have := hb3.size; simp at this; omega) _))) HE.out
    · have h6' : ¬ (60000 : Int) < (n : Int) := by omega
      obtain ⟨r,hr⟩ : ∃ r : Nat,m = 8 + r := ⟨m - 8,by omega⟩
      have hw3 : IntKind.i64.wrap ((m : Int) - 8) = (r : Int) := by rw [IntWalk.i64_in _ (by omega)]; omega
      have hw4 : IntKind.u64.wrap (r : Int) = (r : Int) := IntWalk.u64_in _ (by omega)
      by_cases h7 : s.size < k + 8 + n
      · have h7' : (r : Int) < (n : Int) := by omega
        have HE := hidden (qe2 (btl s) k n (by rw [qC]; omega) hnum.out (.inr (by rw [qC]; omega)))
        have HT := hidden hT
        clear hT hnum hk hm hr h7
        go_wp2_with (first
         | (go_at_call 141
            refine (hN _ (by first | exact blq.alloc nlq _ | exact (blq.alloc nlq _).drew)).mono ?_
            rintro e w3 ⟨A3,cap3,rfl,hb3⟩)
         | fail)
        refine bodyPost_ret (results_tmp2 rfl _ _ _) rfl ?_
        exact qcf.of (HT.out.keep ((hbW.alloc hbW.size _).trans ((hb3.mono (by simp; omega)).alloc (by have := hb3.size; simp at this; omega) _))) HE.out
      · have h7' : ¬ ((r : Int) < (n : Int)) := by omega
        have H7 := hidden h7
        have hw5 : IntKind.i64.wrap ((k : Int) + 8) = (k : Int) + 8 := IntWalk.i64_in _ (by omega)
        have hw6 : IntKind.i64.wrap (n : Int) = (n : Int) := IntWalk.i64_in _ (by omega)
        have hw7 : IntKind.i64.wrap ((k : Int) + 8 + (n : Int)) = (k : Int) + 8 + (n : Int) := IntWalk.i64_in _ (by omega)
        have k8 : (0 : Int) <= (k : Int) + 8 := by omega
        have k9 : (k : Int) + 8 <= (k : Int) + 8 + (n : Int) := by omega
        have k10 : (k : Int) + 8 + (n : Int) <= (s.size : Int) := by omega
        have k11 : (k : Int) <= (k : Int) + 8 + (n : Int) := by omega
        have t8 : ((k : Int) + 8).toNat = k + 8 := by omega
        have t9 : ((k : Int) + 8 + (n : Int)).toNat = k + 8 + n := by omega
        obtain ⟨T,hTb,hF⟩ := qfz (s.extract (k + 8) (k + 8 + n)) (by rw [ByteArray.size_extract]; omega)
        rw [qcC] at hTb
        have hd6 : ((60000 : Int) < (n : Int)) = False := eq_false h6'
        have hd7 : ((r : Int) < (n : Int)) = False := eq_false h7'
        clear h6' h7'
        by_cases hE : T = s.extract k (k + 8 + n)
        · have HE := hidden (hT.told.next hnum.out (by rw [qC]; omega) (by omega) (by rw [<- hTb,hE,qcC]))
          have HT := hidden hT
          have HK := hidden hk
          have HM := hidden hm
          have HR := hidden hr
          subst hE
          clear hT hnum hTb h7 h6 hm hr hk
          go_wp2_with (first
           | (go_at_call 141
              refine (hN _ (by first | exact blq.alloc nlq _ | exact (blq.alloc nlq _).drew)).mono ?_
              rintro e w3 ⟨A3,cap3,rfl,hb3⟩)
           | fail)
          have hb5 : Below wr.heap.size wr (w3.alloc (.cells #[.slice A3 0 cap3, .bool false] 171)) := (hbW.alloc hbW.size _).trans ((hb3.mono (by simp; omega)).alloc (by have := hb3.size; simp at this; omega) _)
          go_region_with (go_at_call 62
                          refine (hF _).mono ?_
                          rintro e w4 ⟨rfl,hb4⟩)
          all_goals
           have HB := hidden (hb5.drew.trans (hb4.mono (by have := hb5.size; simpa using this)))
           have hT4 : qbM w w4 s k ts (.slice A0 ts.length cap0) := qbM.keep HT.out HB.out
           have hown4 := hT4.row
           have hbl4 := hT4.below
           have hmn : 8 * ts.length <= k := hT4.many
           have htl : ts.length <= 1000000 := by have := qa0 HK; omega
           have hsw := hbl4.size
           clear hF hN hcv hlt hlt' hnlt2 hd6 hd7 hw1 hw2 hw3 hw4 hk0 hk1 hk2 hkn hsW hb5 hb4 hb3 hbW hmn
           go_wp2_with (first
            | (at_builtin; refine wpList_append_lies _ rfl _ _ 109 rfl w.heap.size 9 i0 _ 1 16 Tryz.underlying109 hi0 hz0 hz1 hz2 rfl (by omega) (.slice A0 ts.length cap0) ts.length _ rfl (hown4.alloc _) ⟨w4.heap.size,0,none⟩ 1 1 [.string (s.extract (k + 8) (k + 8 + n))] rfl rfl (World.news_of_block (heap_alloc_new w4 _)) (by simp [Value.oneCell']) (by omega) (by unfold maxLen; omega) (by omega) (by simp; omega) (w4.heap.size + 1) (by simp) ?_
               intro g2 cap2 w5 ho5 hgr5 hat5 hlt5)
            | fail)
           have HN := hidden (show qbM w w5 s (k + 8 + n) (ts ++ [s.extract (k + 8) (k + 8 + n)]) (.slice (some ⟨g2,0,none⟩) (ts.length + 1) cap2) from
            ⟨by rw [List.map_append,List.map_cons,List.map_nil,qcC]; exact qa0 HE,by have := hT4.many; rw [List.length_append,List.length_singleton]; omega,by rw [List.length_append,List.map_append]; exact ho5,(hbl4.alloc hbl4.size _).grown hgr5 (by simp; omega) (fun q hq => (hown4.lt q hq).1),⟨_,_,by rw [List.length_append]; rfl⟩⟩)
           clear hT4 hown4 hbl4 ho5 hgr5 hat5 hlt5 hw5 hw6 hw7 t8 t9 k8 k9 k10 k11
           go_wp2
           go_roundg (gk - (8 + n))
           case measure => have := qa0 HK; have := qa0 H7; omega
           case rel => exact ⟨k + 8 + n,_,by first | rfl | go_num | (congr 1; omega),by have := qa0 HK; have := qa0 H7; omega,qa0 HN⟩
        · have HE := hidden (qjD (btl s) k n hnum.out (fun e => hE (qcl (by rw [hTb,e,qcC]))))
          have HT := hidden hT
          have hEf := qmb hE
          clear hT hnum hTb h7 h6 hm hr hk hE
          go_wp2_with (first
           | (go_at_call 141
              refine (hN _ (by first | exact blq.alloc nlq _ | exact (blq.alloc nlq _).drew)).mono ?_
              rintro e w3 ⟨A3,cap3,rfl,hb3⟩)
           | fail)
          have hb5 : Below wr.heap.size wr (w3.alloc (.cells #[.slice A3 0 cap3, .bool false] 171)) := (hbW.alloc hbW.size _).trans ((hb3.mono (by simp; omega)).alloc (by have := hb3.size; simp at this; omega) _)
          go_region_with (go_at_call 62
                          refine (hF _).mono ?_
                          rintro e w4 ⟨rfl,hb4⟩)
          all_goals
           clear hF hN hcv hEf hlt hlt' hnlt2 hd6 hd7 hw5 hw6 hw7 hw1 hw2 hw3 hw4 t8 t9 k8 k9 k10 k11 hk0 hk1 hk2 hkn hsW
           have HB := hidden (hb5.drew.trans (hb4.mono (by have := hb5.size; simpa using this)))
           clear hb5 hb4 hb3 hbW
           go_wp2
           refine bodyPost_ret (results_tmp2 rfl _ _ _) rfl ?_
           exact qcf.of (HT.out.keep HB.out) HE.out
  · have hlt' : ¬ ((8 : Int) <= (m : Int)) := by omega
    have HE := hidden (qiD (btl s) k (by rw [qC]; omega))
    have HT := hidden hT
    clear hT hk hm
    go_wp2
    refine bodyPost_ret (results_tmp2 rfl _ _ _) rfl ?_
    exact qcf.of HT.out HE.out
end Go.Proofs.YtmeoooojmhhahaaGreat
