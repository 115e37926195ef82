/- The program's small ones: ended, hardRecord, snapRecord, isZero, allRight, refused, each by its contract. -/
import Derived.Test.YtmeoooojmhhahaaGreatTVauM
set_option linter.unusedVariables false
set_option linter.unusedSimpArgs false
set_option maxRecDepth 100000
set_option maxHeartbeats 3200000
namespace Go.Proofs.YtmeoooojmhhahaaGreat
open Go.RowKit
section
variable {P : Program} {fn : Func} {p q u r s : Tmp} {T T2 : TypeId} {W : World} {n m : Nat} {cs ds : Array Value} {fr gr : Nat × Nat} {d d2 : TypeDesc} {tmps : Array Value}
theorem qgI (h : fn.results = #[.tmp u, .cell p T, .cell q T2, .tmp r, .tmp s]) (tmps : Array Value) (P : Program) (w : World) :
 (results fn tmps).run P w =
   ((asAddr (tmps.getD p undef)).run P w).andThen fun a w₁ => ((loadVar T a).run P w₁).andThen fun v w₂ => ((asAddr (tmps.getD q undef)).run P w₂).andThen fun b w₃ => ((loadVar T2 b).run P w₃).andThen fun x w₄ => .ok (.tuple #[tmps.getD u undef,v,x,tmps.getD r undef,tmps.getD s undef]) w₄ := by
 simp only [results,h]
 simp [Sem.run_bind,Result.andThen]
theorem qaX (h : fn.results = #[.tmp u, .cell p T, .cell q T2, .tmp r, .tmp s]) (h1 : tmps.getD p undef = .pointer (some ⟨n,0,none⟩)) (hW : W.heap[n]? = some (.cells cs T fr)) (h2 : tmps.getD q undef = .pointer (some ⟨m,0,none⟩)) (hV : W.heap[m]? = some (.cells ds T2 gr)) (hu : P.underlying T = some d) (hv : P.underlying T2 = some d2)
 (hd : (match d with | .struct _ | .array _ _ => true | _ => false) = true) (he : (match d2 with | .struct _ | .array _ _ => true | _ => false) = true) (hi : (P.info? T).map (·.size) = some cs.size) (hj : (P.info? T2).map (·.size) = some ds.size) : (results fn tmps).run P W = .ok (.tuple #[tmps.getD u undef, .agg cs, .agg ds,tmps.getD r undef,tmps.getD s undef]) W := by
 rw [qgI h,h1,h2]
 simp [asAddr,run_loadVar_row W n T T cs fr d hW hu hd hi,run_loadVar_row W m T2 T2 ds gr d2 hV hv he hj]
end
theorem qdY (w : World) (o : Nat) (l : List UInt8) (Z : Nat -> Prop) (h : Out w o l Z) (hl : l.length <= 60000) :
 Calls Tryz.prog 109 #[.pointer (some ⟨o,0,none⟩)] w fun e w' => ∃ A cap,e = .returned (.slice A l.length cap) /\ Owns 5 w' w.heap.size (.slice A l.length cap) l /\ Below w.heap.size w w' := by
 have hE := qkK w o l Z h hl
 clear h
 go_enter Tryz.func109,Tryz.ntmps109
 go_wp2_with fail
 refine hE.mono ?_
 rintro e w1 ⟨A,cap,rfl,_,ho,hb⟩
 go_wp2
 go_ret
 exact ⟨A,cap,rfl,ho,hb⟩
theorem qll (h : Hd) (hr : rightH h = true) : ([] ++ [UInt8.ofNat (1 : Int).toNat]) ++ qaP h.t h.v = qy h := by
 have hr' : hardB h.t h.v = true := hr
 rw [qcu,if_pos hr']
 rfl
theorem qlR (e : Ent) (hr : rightE e = true) : ([] ++ [UInt8.ofNat (2 : Int).toNat]) ++ qab e.i e.t e.d = entRec e := by
 have hr' : rightB e.i e.t e.d.length = true := hr
 rw [qem,if_pos hr']
 rfl
theorem qlm (s : Ent) (hr : snapB s.i s.t s.d.length = true) : [] ++ qaO s.i s.t s.d = snapRec s := by
 rw [qdL,if_pos hr]
 rfl
theorem qdj (h : Hd) (hr : rightH h = true) (w : World) :
 Calls Tryz.prog 52 #[.agg #[.int .i64 h.t, .int .i64 h.v]] w fun e w' => ∃ A cap,e = .returned (.slice A (qy h).length cap) /\ Owns 5 w' w.heap.size (.slice A (qy h).length cap) (qy h) /\ Below w.heap.size w w' := by
 have hlen := qcy h
 have hb0 : Below w.heap.size w (w.alloc (.cells #[.int .i64 h.t, .int .i64 h.v] 32)) := blq.alloc nlq _
 have hr0 := heap_alloc_new w (.cells #[.int .i64 h.t, .int .i64 h.v] 32)
 have hs0 : (w.alloc (.cells #[.int .i64 h.t, .int .i64 h.v] 32)).heap.size = w.heap.size + 1 := by simp
 have hZ0 : ∀ k,(k < w.heap.size + 1) -> k < (w.alloc (.cells #[.int .i64 h.t, .int .i64 h.v] 32)).heap.size := fun k hk => by omega
 have hO := qfM (w.alloc (.cells #[.int .i64 h.t, .int .i64 h.v] 32)) (· < w.heap.size + 1) hZ0
 have hb1 : Below (w.heap.size + 1) (w.alloc (.cells #[.int .i64 h.t, .int .i64 h.v] 32)) ((w.alloc (.cells #[.int .i64 h.t, .int .i64 h.v] 32)).alloc (.cells #[.slice none 0 0, .bool false] 187)) := blq.alloc (by simp) _
 have hr1 := (hb1.block w.heap.size (by omega)).trans hr0
 have hZ1 : ∀ k,(k < w.heap.size + 1) -> k < ((w.alloc (.cells #[.int .i64 h.t, .int .i64 h.v] 32)).alloc (.cells #[.slice none 0 0, .bool false] 187)).heap.size := fun k hk => by simp; omega
 have hbb := hb0.trans (hb1.mono (by omega))
 have hB := qgT 1 (by omega) _ _ _ _ hO hZ1
 rw [hs0] at hB
 clear hO hb0 hb1 hr0 hs0 hZ0
 go_enter Tryz.func52,Tryz.ntmps52
 go_wp2_with fail
 refine hB.mono ?_
 rintro e w2 ⟨rfl,h2,k2⟩
 have hr2 := (k2.block _ (hlt hr1) (by show w.heap.size < w.heap.size + 1; omega)).trans hr1
 have hbw2 := qaf hbb k2 (fun i hi => by show i < w.heap.size + 1; omega) hbb.size
 have hZ2 : ∀ k,(k < w.heap.size + 1) -> k < w2.heap.size := fun k hk => Nat.lt_of_lt_of_le (hZ1 k hk) k2.size
 have hP := qkV h.t h.v w2 _ _ _ h2 hZ2
 obtain ⟨⟨a0,a1⟩,_⟩ := row2 hr2
 clear hB hr1 k2 hbb hZ1
 go_wp2_with fail
 refine hP.mono ?_
 rintro e w3 ⟨rfl,h3,k3⟩
 have hbw3 := qaf hbw2 k3 (fun i hi => by show i < w.heap.size + 1; omega) hbw2.size
 rw [qll h hr] at h3
 have hE := qdY w3 _ _ _ h3 hlen
 clear hP h2 h3 k3 a0 a1 hr2
 go_wp2_with fail
 refine hE.mono ?_
 rintro e w4 ⟨A,cap,rfl,ho,hb⟩
 have ho' : Owns 5 w4 w.heap.size (.slice A (qy h).length cap) (qy h) := ho.rebase fun k hk => Nat.le_trans hbw3.size (ho.lt k hk).1
 have hbw4 := hbw3.trans (hb.mono hbw3.size)
 clear hE ho hb
 go_wp2
 go_ret
 exact ⟨A,cap,rfl,ho',hbw4⟩
theorem qfR (s : Ent) (hr : snapB s.i s.t s.d.length = true) (B : Option Addr) (c : Nat) (w : World) (hd : Lies w B s.d.length c s.d) :
 Calls Tryz.prog 115 #[entV s.i s.t B s.d.length c] w fun e w' => ∃ A cap,e = .returned (.slice A (snapRec s).length cap) /\ Owns 5 w' w.heap.size (.slice A (snapRec s).length cap) (snapRec s) /\ Below w.heap.size w w' := by
 have hsd := (qcd hr).2.2
 have hlen : (snapRec s).length <= 60000 := by unfold snapRec; rw [qa2]; omega
 have hb0 : Below w.heap.size w (w.alloc (.cells #[.int .i64 s.i, .int .i64 s.t, .slice B s.d.length c] 35)) := blq.alloc nlq _
 have hr0 := heap_alloc_new w (.cells #[.int .i64 s.i, .int .i64 s.t, .slice B s.d.length c] 35)
 have hs0 : (w.alloc (.cells #[.int .i64 s.i, .int .i64 s.t, .slice B s.d.length c] 35)).heap.size = w.heap.size + 1 := by simp
 have hZ0 : ∀ k,(k < w.heap.size + 1) -> k < (w.alloc (.cells #[.int .i64 s.i, .int .i64 s.t, .slice B s.d.length c] 35)).heap.size := fun k hk => by omega
 have hO := qfM (w.alloc (.cells #[.int .i64 s.i, .int .i64 s.t, .slice B s.d.length c] 35)) (· < w.heap.size + 1) hZ0
 have hb1 : Below (w.heap.size + 1) (w.alloc (.cells #[.int .i64 s.i, .int .i64 s.t, .slice B s.d.length c] 35)) ((w.alloc (.cells #[.int .i64 s.i, .int .i64 s.t, .slice B s.d.length c] 35)).alloc (.cells #[.slice none 0 0, .bool false] 187)) := blq.alloc (by simp) _
 have hr1 := (hb1.block w.heap.size (by omega)).trans hr0
 have hZ1 : ∀ k,(k < w.heap.size + 1) -> k < ((w.alloc (.cells #[.int .i64 s.i, .int .i64 s.t, .slice B s.d.length c] 35)).alloc (.cells #[.slice none 0 0, .bool false] 187)).heap.size := fun k hk => by simp; omega
 have hbb := hb0.trans (hb1.mono (by omega))
 have hlie : ∀ (g : Nat) (off : Nat),0 < s.d.length -> B = some ⟨g,off,none⟩ -> g < w.heap.size := fun g off h0 e => by
  obtain ⟨g',off',e',hg,_⟩ := hd.2.2.2 h0
  rw [e] at e'
  injection e' with e'
  injection e' with e1 _
  omega
 have hP := qkU s.i s.t B s.d.length c s.d _ _ _ _ hO hZ1 (by omega) (hd.below hbb nlq) (fun h0 g off e => by have := hlie g off h0 e; omega)
 rw [hs0] at hP
 obtain ⟨⟨a0,a1,a2⟩,_⟩ := row3 hr1
 clear hO hb0 hb1 hr0 hs0 hZ0 hd hlie
 go_enter Tryz.func115,Tryz.ntmps115
 go_wp2_with fail
 refine hP.mono ?_
 rintro e w3 ⟨rfl,h3,k3⟩
 have hbw3 := qaf hbb k3 (fun i hi => by show i < w.heap.size + 1; omega) hbb.size
 rw [qlm s hr] at h3
 have hE := qdY w3 _ _ _ h3 hlen
 clear hP h3 k3 a0 a1 a2 hr1 hZ1 hbb
 go_wp2_with fail
 refine hE.mono ?_
 rintro e w4 ⟨A,cap,rfl,ho,hb⟩
 have ho' : Owns 5 w4 w.heap.size (.slice A (snapRec s).length cap) (snapRec s) := ho.rebase fun k hk => Nat.le_trans hbw3.size (ho.lt k hk).1
 have hbw4 := hbw3.trans (hb.mono hbw3.size)
 clear hE ho hb
 go_wp2
 go_ret
 exact ⟨A,cap,rfl,ho',hbw4⟩
theorem qft (i t : Int) (B : Option Addr) (n c : Nat) (w : World) :
 Calls Tryz.prog 58 #[entV i t B n c] w fun e w' => e = .returned (.bool (decide (i = 0))) /\ Below w.heap.size w w' := by
 have hb0 : Below w.heap.size w (w.alloc (.cells #[.int .i64 i, .int .i64 t, .slice B n c] 35)) := blq.alloc nlq _
 go_enter Tryz.func58,Tryz.ntmps58
 go_wp2
 go_ret
 refine ⟨?_,hb0⟩
 rfl
theorem qhu (Z : Nat -> Prop) (A : Option Addr) (len cap : Nat) (ls : List Ent) (w : World) (h : Ents w Z A len cap ls) (hm : len <= maxLen) :
 Calls Tryz.prog 51 #[.slice A len cap] w fun e w' => e = .returned (.bool (ls.all rightE)) /\ Below w.heap.size w w' := by
 unfold maxLen at hm
 have hll := h.1
 obtain ⟨F,hF⟩ : ∃ F,Hid (ls.all rightE = F) := ⟨_,⟨rfl⟩⟩
 rw [hF.out]
 go_enter Tryz.func51,Tryz.ntmps51
 go_wp2
 go_loopg [7] len (fun g i wr => ∃ k : Nat,k + g = len /\ i = .int .i64 (k : Int) /\ Hid (∀ j (hj : j < ls.length),j < k -> rightE ls[j] = true) /\ Below w.heap.size w wr)
 case atStart => exact ⟨0,by omega,rfl,⟨fun j _ hj => absurd hj (by omega)⟩,blq⟩
 case round =>
  obtain ⟨k,hk,rfl,HA,hb⟩ := hrel
  by_cases hlt : k < len
  · have hlt' : (k : Int) < (len : Int) := by omega
    obtain ⟨g,off,E,c,rfl,hg,x0,x1,x2,hl⟩ := (h.below hb nlq).at_ k hlt
    have HN : Hid (rightE (ls[k]'(by omega)) = false -> F = false) := ⟨fun hf => by
     rw [<- hF.out]
     refine List.all_eq_false.2 ⟨ls[k]'(by omega),List.getElem_mem _,?_⟩
     rw [hf]; simp⟩
    have HY : Hid (rightE (ls[k]'(by omega)) = true -> ∀ j (hj : j < ls.length),j < k + 1 -> rightE ls[j] = true) := ⟨fun ht j hj hjk => by
     rcases Nat.lt_or_ge j k with h1 | h1
     · exact HA.out j hj h1
     · obtain rfl : j = k := by omega
       exact ht⟩
    have hR := fun W => qcM (ls[k]'(by omega)).i (ls[k]'(by omega)).t E (ls[k]'(by omega)).d.length c W
    have hre : rightE (ls[k]'(by omega)) = rightB (ls[k]'(by omega)).i (ls[k]'(by omega)).t (ls[k]'(by omega)).d.length := rfl
    rw [<- hre] at hR
    generalize hq : rightE (ls[k]'(by omega)) = q at *
    generalize (ls[k]'(by omega)) = x at *
    obtain ⟨xi,xt,xd⟩ := x
    dsimp only at *
    have hb0 : Below wr.heap.size wr (wr.alloc (.cells #[.int .i64 xi, .int .i64 xt, .slice E xd.length c] 69)) := blq.alloc nlq _
    have HK := Lib.hid hk
    clear hq hre h hl hll hk
    cases q with
    | false =>
      have HE := Lib.hid (HN.out rfl)
      clear HN HY HA hF
      go_wp2_with fail
      refine (hR _).mono ?_
      rintro e w1 ⟨rfl,hb1⟩
      have hbw := hb.trans ((hb0.trans (hb1.mono hb0.size)).mono hb.size)
      go_wp2
      go_ret
      exact ⟨by have e : F = false := HE; rw [e]; rfl,hbw⟩
    | true =>
      have HE := Lib.hid (HY.out rfl)
      clear HN HY HA hF
      go_wp2_with fail
      refine (hR _).mono ?_
      rintro e w1 ⟨rfl,hb1⟩
      have hbw := hb.trans ((hb0.trans (hb1.mono hb0.size)).mono hb.size)
      go_wp2
      go_roundg (gk - 1)
      case measure => have e : k + gk = len := HK; omega
      case rel => exact ⟨k + 1,by have e : k + gk = len := HK; omega,by go_num,⟨HE⟩,hbw⟩
  · obtain rfl : k = len := by omega
    have HE := Lib.hid (show F = true by
     rw [<- hF.out]
     refine List.all_eq_true.2 fun x hx => ?_
     obtain ⟨j,hj,rfl⟩ := List.getElem_of_mem hx
     exact HA.out j hj (by omega))
    clear h HA hF hll
    go_wp2
    go_ret
    exact ⟨by have e : F = true := HE; rw [e]; rfl,hb⟩
theorem qh5 (c : Int) (w : World) :
 Calls Tryz.prog 37 #[.int .i64 c] w fun e w' => e = .returned (.tuple #[.pointer none, .agg #[.int .i64 0, .int .i64 0],entV 0 0 none 0 0, .slice none 0 0, .int .i64 c]) /\ Below w.heap.size w w' := by
 go_enter Tryz.func37,Tryz.ntmps37
 go_wp2
 refine bodyPost_ret (qaX (n := w.heap.size) (m := w.heap.size + 1) rfl rfl ((Below.heap_alloc _ _ _ (by simp)).trans (heap_alloc_new _ _)) rfl (heap_alloc2_new _ _ _) Tryz.underlying32 Tryz.underlying35 rfl rfl (by kernel_rfl) (by kernel_rfl)) rfl ?_
 exact ⟨rfl,(blq.alloc nlq _).alloc (by simp) _⟩
end Go.Proofs.YtmeoooojmhhahaaGreat
namespace Go.Proofs.YtmeoooojmhhahaaGreat
open Go.RowKit
structure qhv (w wr : World) (ts : List (List UInt8)) (v : Value) : Prop where
 row : qm wr w.heap.size v ts
 below : Below w.heap.size w wr
theorem qi9 (w : World) (n : Nat) (hn : n <= 1000000) : qhv w (w.alloc (.cells (madeCells #[.slice none 0 0] (n * 1)) 33)) [] (.slice (some ⟨w.heap.size,0,none⟩) 0 n) :=
 ⟨⟨[],World.ownsRow_made (base := w.heap.size) (e := 33) (size := 1) w _ n nlq (by unfold maxLen; omega) (size_madeCells _ _),rfl,fun j hj => by simp at hj⟩,blq.alloc nlq _⟩
theorem qcA (Z : Nat -> Prop) (A : Option Addr) (len cap : Nat) (ls : List Ent) (w : World) (h : Ents w Z A len cap ls) (hm : len <= 1000000) (hr : ∀ x ∈ ls,rightE x = true) :
 Calls Tryz.prog 54 #[.slice A len cap] w fun e w' => ∃ A' cap',e = .returned (.slice A' len cap') /\ qm w' w.heap.size (.slice A' len cap') (ls.map entRec) /\ Below w.heap.size w w' := by
 have hll := h.1
 obtain ⟨i0,hi0,hz0,hz1,hz2⟩ := info_parts qdw
 have hmk : ∀ (w1 : World),(Instr.makeSlice 97 (.int .i64 0) (.int .i64 (len : Int))).run Tryz.prog w1 = .ok (.slice (some ⟨w1.heap.size,0,none⟩) 0 len) (w1.alloc (.cells (madeCells #[.slice none 0 0] (len * 1)) 33)) := fun w1 => by
  have := run_make (P := Tryz.prog) w1 97 33 i0 _ Tryz.underlying97 hi0 hz0 .i64 .i64 0 (len : Int) (Int.le_refl _) (by omega) (by rw [hz2]; omega) (by omega)
  rw [hz1] at this
  exact this
 have HST := Lib.hid (qi9 w len hm)
 have HR := Lib.hid hr
 have HH := Lib.hid h
 clear hr h
 go_enter Tryz.func54,Tryz.ntmps54
 go_wp2
 clear hmk
 go_loopg [3,12] len (fun g v i wr => ∃ (k : Nat) (ts : List (List UInt8)),k + g = len /\ i = .int .i64 (k : Int) /\ Hid (ts = (ls.take k).map entRec) /\ qhv w wr ts v)
 case atStart => exact ⟨0,[],by omega,rfl,⟨by simp⟩,by have h0 : qhv _ _ _ _ := HST; rw [Nat.mul_one] at h0; exact h0⟩
 case round =>
  clear HST
  obtain ⟨k,ts,hk,rfl,HTS,hT⟩ := hrel
  obtain ⟨A0,cap0,rfl⟩ := hT.row.form
  have htl : ts.length = k := by rw [HTS.out,List.length_map,List.length_take]; omega
  by_cases hklt : k < len
  · have hlt' : (k : Int) < (len : Int) := by omega
    have hE : Ents w Z A len cap ls := HH
    obtain ⟨g,off,E,c,rfl,hg,x0,x1,x2,hl⟩ := (hE.below hT.below nlq).at_ k hklt
    have hx : rightE (ls[k]'(by omega)) = true := HR _ (List.getElem_mem _)
    have htk : (ls.take (k + 1)).map entRec = (ls.take k).map entRec ++ [entRec (ls[k]'(by omega))] := by
     rw [List.take_succ_eq_append_getElem (by omega),List.map_append]; rfl
    have HTK := Lib.hid htk
    generalize (ls[k]'(by omega)) = x at *
    obtain ⟨vs,hown,hvl,hvat⟩ := hT.row
    have hof := hown.lt
    have hrow := Lib.hid hT.row
    have hbw := hT.below
    have hs0 := hT.below.size
    have HV := Lib.hid hvat
    have HVL := Lib.hid hvl
    have HTL := Lib.hid htl
    have htn : ts.length <= 1000000 := by omega
    have hxd : x.d.length <= 12000 := (qc2 hx).2.2
    have hlen : (entRec x).length <= 60000 := qes hx
    have hb0 : Below wr.heap.size wr (wr.alloc (.cells #[.int .i64 x.i, .int .i64 x.t, .slice E x.d.length c] 69)) := blq.alloc nlq _
    have hr0 := heap_alloc_new wr (.cells #[.int .i64 x.i, .int .i64 x.t, .slice E x.d.length c] 69)
    have hz0' : (wr.alloc (.cells #[.int .i64 x.i, .int .i64 x.t, .slice E x.d.length c] 69)).heap.size = wr.heap.size + 1 := by simp
    have hZ0 : ∀ k,(k < wr.heap.size + 1) -> k < (wr.alloc (.cells #[.int .i64 x.i, .int .i64 x.t, .slice E x.d.length c] 69)).heap.size := fun k hk => by omega
    have hO := qfM (wr.alloc (.cells #[.int .i64 x.i, .int .i64 x.t, .slice E x.d.length c] 69)) (· < wr.heap.size + 1) hZ0
    have hb1 : Below (wr.heap.size + 1) (wr.alloc (.cells #[.int .i64 x.i, .int .i64 x.t, .slice E x.d.length c] 69)) ((wr.alloc (.cells #[.int .i64 x.i, .int .i64 x.t, .slice E x.d.length c] 69)).alloc (.cells #[.slice none 0 0, .bool false] 187)) := blq.alloc (by simp) _
    have hr1 := (hb1.block wr.heap.size (by omega)).trans hr0
    have hZ1 : ∀ k,(k < wr.heap.size + 1) -> k < ((wr.alloc (.cells #[.int .i64 x.i, .int .i64 x.t, .slice E x.d.length c] 69)).alloc (.cells #[.slice none 0 0, .bool false] 187)).heap.size := fun k hk => by simp; omega
    have hbb := hb0.trans (hb1.mono (by omega))
    have hB := qgT 2 (by omega) _ _ _ _ hO hZ1
    rw [hz0'] at hB
    have HLG := Lib.hid (show ∀ (g : Nat) (off : Nat),0 < x.d.length -> E = some ⟨g,off,none⟩ -> g < wr.heap.size from fun g off h0 e => by
     obtain ⟨g',off',e',hg,_⟩ := hl.2.2.2 h0
     rw [e] at e'
     injection e' with e'
     injection e' with e1 _
     omega)
    have HLL := Lib.hid hl
    have HK := Lib.hid hk
    have HX := Lib.hid hx
    clear hO hb0 hb1 hr0 hz0' hZ0 hT hl hk hx hvat hvl htk hE htl
    go_wp2_with fail
    refine hB.mono ?_
    rintro e w2 ⟨rfl,h2,k2⟩
    have hr2 := (k2.block _ (hlt hr1) (by show wr.heap.size < wr.heap.size + 1; omega)).trans hr1
    have hbw2 := qaf hbb k2 (fun i hi => by show i < wr.heap.size + 1; omega) hbb.size
    have hZ2 : ∀ k,(k < wr.heap.size + 1) -> k < w2.heap.size := fun k hk => Nat.lt_of_lt_of_le (hZ1 k hk) k2.size
    have hL : Lies wr E x.d.length c x.d := HLL
    have hP := qkT x.i x.t E x.d.length c x.d w2 _ _ _ h2 hZ2 (by omega) (hL.below hbw2 nlq) (fun h0 g off e => by
     have hh : ∀ (g : Nat) (off : Nat),0 < x.d.length -> E = some ⟨g,off,none⟩ -> g < wr.heap.size := HLG
     have := hh g off h0 e
     show g < wr.heap.size + 1
     omega)
    obtain ⟨⟨a0,a1,a2⟩,_⟩ := row3 hr2
    clear hB hr1 k2 hbb hZ1 x0 x1 x2
    go_wp2_with fail
    refine hP.mono ?_
    rintro e w3 ⟨rfl,h3,k3⟩
    have hbw3 := qaf hbw2 k3 (fun i hi => by show i < wr.heap.size + 1; omega) hbw2.size
    rw [qlR x HX] at h3
    have hE := qdY w3 _ _ _ h3 hlen
    clear hP h2 h3 k3 a0 a1 a2 hr2 hbw2 hZ2
    go_wp2_with fail
    refine hE.mono ?_
    rintro e w4 ⟨A4,cap4,rfl,ho4,hb4⟩
    have hb12 : Below wr.heap.size wr w4 := hbw3.trans (hb4.mono hbw3.size)
    obtain ⟨A4',cap4',he4,hl4,hq4⟩ := qq ho4
    have hc4 : cap4 <= maxLen := qcx ho4
    injection he4 with e1 e2 e3
    subst e1 e3
    have hof4 := ho4.lt
    have hown4 := qeV hown fun g hg => hb12.block g (hof g hg).2
    have hn4 : Hid ((entRec x).length <= 60000) := ⟨hlen⟩
    obtain ⟨n,hn⟩ : ∃ n,Hid ((entRec x).length = n) := ⟨_,⟨rfl⟩⟩
    rw [hn.out] at hl4
    have hof5 := hof4
    clear hE ho4 hof4 hlen
    rw [hn.out]
    go_wp2_with (first
     | (at_builtin; refine wpList_append_lies _ rfl _ _ 97 rfl w.heap.size 33 i0 _ 1 24 Tryz.underlying97 hi0 hz0 hz1 hz2 rfl (by omega) (.slice A0 ts.length cap0) ts.length vs rfl (hown4.alloc _) ⟨w4.heap.size,0,none⟩ 1 1 [.slice A4 n cap4] rfl rfl (World.news_of_block (heap_alloc_new w4 _)) (by simp [Value.oneCell']) (by omega) (by unfold maxLen; omega) (by omega) (by have := hb12.size; simp; omega) (w4.heap.size + 1) (by simp) ?_
        intro g2 cap3 w5 ho5 hgr5 hat5 hlt5)
     | fail)
    have hrec : qm w5 w.heap.size (.slice (some ⟨g2,0,none⟩) (ts.length + 1) cap3) (ts ++ [entRec x]) := by
     have hz := hb12.size
     refine qm.more (w := wr) (w1 := w4.alloc (.cells #[.slice A4 n cap4] 33)) hrow (hb12.alloc hb12.size _) (e := .slice A4 n cap4) ?_ hs0 vs HVL HV ho5 hgr5 (fun q hq => (hof q hq).2) ?_
     · refine ⟨A4,cap4,by rw [hn.out],hc4,?_,fun h0 g off e => ?_⟩
       · rw [hn.out]
         exact hl4.below ((Below.refl w4.heap.size w4).alloc nlq _) nlq
       · have h1 := (hof5 g (hq4 g off e)).1
         have h2 := hbw3.size
         omega
     · rcases hat5 with h | h
       · exact .inl h
       · exact .inr (by simp; omega)
    have hbw5 : Below w.heap.size w w5 := (hbw.trans ((hb12.alloc hb12.size _).mono hs0)).grown hgr5 (by have := hb12.size; simp; omega) fun q hq => (hof q hq).1
    have HRE := Lib.hid hrec
    have HB := Lib.hid hbw5
    clear hrec hbw5 ho5 hgr5 hat5 hof hof5 hl4 hq4 hown4 hown hb12 hb4 hlt5
    go_wp2
    go_roundg (gk - 1)
    case measure => have a1 : k + gk = len := HK; omega
    case rel =>
     have a1 : k + gk = len := HK
     refine ⟨k + 1,ts ++ [entRec x],by omega,by go_num,⟨?_⟩,⟨HRE,HB⟩⟩
     have e : (ls.take (k + 1)).map entRec = (ls.take k).map entRec ++ [entRec x] := HTK
     rw [e,HTS.out]
  · obtain rfl : k = len := by omega
    have e : ts = ls.map entRec := by rw [HTS.out,List.take_of_length_le (by omega)]
    have HTL := Lib.hid htl
    have HF := Lib.hid hT.row
    have HB := Lib.hid hT.below
    have HE := Lib.hid e
    clear hT e htl HTS
    go_wp2
    go_ret
    refine ⟨A0,cap0,?_,?_,HB⟩
    · have e : ts.length = k := HTL
      rw [e]
      rfl
    · have e : ts.length = k := HTL
      have e2 : ts = ls.map entRec := HE
      have e3 : qm wr w.heap.size (.slice A0 ts.length cap0) ts := HF
      rw [e,e2] at e3
      exact e3
end Go.Proofs.YtmeoooojmhhahaaGreat
namespace Go.Proofs.YtmeoooojmhhahaaGreat
open Go.RowKit
def snapC (o : Option Ent) : Ent × Nat := match o with | some s => (s,0) | none => (qaC,2)
def qbL (w : World) (R : Ent × Nat) (e : Ending) (w' : World) : Prop :=
 ∃ B c,e = .returned (.tuple #[entV R.1.i R.1.t B R.1.d.length c, .int .i64 ((R.2 : Nat) : Int)]) /\ Lies w' B R.1.d.length c R.1.d /\ (0 < R.1.d.length -> ∀ g off,B = some ⟨g,off,none⟩ -> w.heap.size <= g) /\ Below w.heap.size w w'
theorem qbL.zero {w w' : World} (n : Nat) (hb : Below w.heap.size w w') : qbL w (qaC,n) (.returned (.tuple #[entV 0 0 none 0 0, .int .i64 ((n : Nat) : Int)])) w' :=
 ⟨none,0,rfl,Lies.nil _,fun h => absurd h (by simp [qaC]),hb⟩
theorem qai {B : Nat} {w w' : World} (h : Below B w w') {n : Nat} (hn : B <= n) (a b c : Value) : Below B w (((w'.setCell ⟨n,0,none⟩ a).setCell ⟨n,1,none⟩ b).setCell ⟨n,2,none⟩ c) := ((h.setCell hn _).setCell hn _).setCell hn _
theorem qcB (w : World) {n k : Nat} (hk : k ≠ n) (a b c : Value) : (((w.setCell ⟨n,0,none⟩ a).setCell ⟨n,1,none⟩ b).setCell ⟨n,2,none⟩ c).heap[k]? = w.heap[k]? :=
 (Below.heap_setCell _ _ _ _ (by exact hk)).trans ((Below.heap_setCell _ _ _ _ (by exact hk)).trans (Below.heap_setCell _ _ _ _ (by exact hk)))
theorem Lies.lt {w : World} {A : Option Addr} {len cap : Nat} {l : List UInt8} (h : Lies w A len cap l) {g off : Nat} (h0 : 0 < len) (e : A = some ⟨g,off,none⟩) : g < w.heap.size := by
 obtain ⟨g',off',e',hg,_⟩ := h.2.2.2 h0
 rw [e] at e'
 injection e' with e'
 injection e' with e1 _
 omega
theorem qja (A : Option Addr) (len cap : Nat) (l : List UInt8) (w : World) (hl : Lies w A len cap l) (hm : len <= 1000000000) :
 Calls Tryz.prog 90 #[.slice A len cap] w (qbL w (snapC (snapOf l))) := by
 have hll := hl.1
 have hb0 : Below w.heap.size w (w.alloc (.cells #[.int .i64 0, .int .i64 0, .slice none 0 0] 35)) := blq.alloc nlq _
 have hr0 := heap_alloc_new w (.cells #[.int .i64 0, .int .i64 0, .slice none 0 0] 35)
 have hz0 : (w.alloc (.cells #[.int .i64 0, .int .i64 0, .slice none 0 0] 35)).heap.size = w.heap.size + 1 := by simp
 have hS := qeW A len cap l _ (hl.below hb0 nlq) hm
 unfold qdx at hS
 rw [hz0] at hS
 have hse := qcG l
 have hfit := (qcp l).2
 obtain ⟨R,hR⟩ : ∃ R,R = snapC (snapOf l) := ⟨_,rfl⟩
 rw [<- hR]
 unfold snapOf at hR
 generalize qv l = sc at *
 obtain ⟨ls,en⟩ := sc
 dsimp only at *
 have hlt0 : w.heap.size < (w.alloc (.cells #[.int .i64 0, .int .i64 0, .slice none 0 0] 35)).heap.size := by omega
 have hfin : ∀ w2,Below (w.heap.size + 1) (w.alloc (.cells #[.int .i64 0, .int .i64 0, .slice none 0 0] 35)) w2 -> w2.heap[w.heap.size]? = some (.cells #[.int .i64 0, .int .i64 0, .slice none 0 0] 35) /\ Below w.heap.size w w2 := fun w2 hb2 => ⟨(hb2.block _ (by omega)).trans hr0,hb0.trans (hb2.mono (by omega))⟩
 clear hl hr0 hb0 hlt0
 by_cases h1 : ls.length = 1
 · match ls,h1 with
   | [r],_ =>
     dsimp only [List.length_cons,List.length_nil] at *
     by_cases h2 : en = len
     · subst h2
       have hr6 : r.length <= 60000 := hfit r (List.mem_singleton_self r)
       have hL : left (some r) <= 140737488355328 := by show r.length <= _; omega
       have hG := fun W i Z h hZ => qkW W i (some r) Z h hZ hL
       generalize fromN snapB (some r) 50000 = F at *
       obtain ⟨fi,ft,fd,fs⟩ := F
       dsimp only at *
       have e1 : 0 + 1 = 1 := rfl
       rw [e1] at hS
       have HR := Lib.hid hR
       have HLL := Lib.hid hll
       clear hR hll hse hfit hL hz0
       go_enter Tryz.func90,Tryz.ntmps90
       go_wp2_with fail
       refine hS.mono ?_
       rintro e w2 ⟨A2,c2,rfl,hrec,hb2⟩
       obtain ⟨hr2,hbw2⟩ := hfin w2 hb2
       obtain ⟨g,off,rfl,hg,_,hcell⟩ := hrec.2.2.2 (by omega)
       obtain ⟨v,hv,E,cE,rfl,hcE,hlE,_⟩ := hcell 0 (by simp)
       have hv' : w2.cell? ⟨g,off,none⟩ = some (.slice E r.length cE) := hv
       have hN := qf1 E r.length cE r w2 (· < w2.heap.size) (fun k hk => hk) hlE (by omega)
       clear hS hrec hb2 hfin hcell hv e1
       go_wp2_with fail
       refine hN.mono ?_
       rintro e w3 ⟨i,rfl,hin3,hb3⟩
       have hr3 := (hb3.block _ (hlt hr2)).trans hr2
       have hin3' := hin3.out (Z' := fun k => k < w2.heap.size \/ w3.heap.size <= k) (fun k hk => hk)
       have hG3 := hG w3 i _ hin3' (fun k hk => .inr hk)
       have hs23 := hb3.size
       have hlt2 : w.heap.size < w2.heap.size := hlt hr2
       clear hN hG hin3 hv' hlE hg
       go_wp2_with fail
       refine hG3.mono ?_
       rintro e w4 ⟨D,n,c,rfl,hlD,hDn,hin4,k4⟩
       have hn := hlD.1
       subst hn
       have hr4 := (k4.block _ (hlt hr3) (.inl hlt2)).trans hr3
       have hbw4 : Below w.heap.size w w4 := (hbw2.trans (hb3.mono hbw2.size)).trans ⟨k4.os,k4.tape,k4.output,k4.size,fun k hk => k4.block k (by omega) (.inl (by omega))⟩
       have hA5 : Below w4.heap.size w4 (w4.alloc (.cells #[.int .i64 fi, .int .i64 ft, .slice D fd.length c] 35)) := blq.alloc nlq _
       have hq5 := heap_alloc_new w4 (.cells #[.int .i64 fi, .int .i64 ft, .slice D fd.length c] 35)
       have hin5 := hin4.below hA5 nlq
       have hr5 := (hA5.block _ (hlt hr4)).trans hr4
       have hl5 := hlD.below hA5 nlq
       have hbw5 := hbw4.trans (hA5.mono hbw4.size)
       have hDw : 0 < fd.length -> ∀ g off,D = some ⟨g,off,none⟩ -> w.heap.size < g := fun h0 g off e => by have := hDn h0 g off e; omega
       have hDone := qeG _ i fs _ hin5
       clear hG3 hin3' hr3 k4 hin4 hA5 hr4 hlD hDn hin5 hb3 hbw4 hbw2 hr2
       by_cases hd : fs = some []
       · rw [decide_eq_true hd] at hDone
         obtain ⟨⟨a0,a1,a2⟩,_⟩ := row3 hq5
         have hZ := fun W => qft fi ft D fd.length c W
         by_cases hi : fi = 0
         · rw [decide_eq_true hi] at hZ
           have HRZ := Lib.hid (show R = (qaC,2) by
            have e : R = _ := HR
            rw [e,if_neg (fun h => h.2.2 hi)]; rfl)
           clear HR hd hi
           go_wp2_with fail
           refine hDone.mono ?_
           rintro e w5 ⟨rfl,rfl⟩
           go_wp2_with fail
           refine (hZ _).mono ?_
           rintro e w6 ⟨rfl,hb6⟩
           have hr6' := (hb6.block _ (hlt hr5)).trans hr5
           have HB := Lib.hid (hbw5.trans (hb6.mono hbw5.size))
           obtain ⟨⟨b0,b1,b2⟩,⟨f0,f1,f2⟩⟩ := row3 hr6'
           have HQ := Lib.hid hr6'
           clear hr6' hr5 hq5 hb6 hbw5 hZ a0 a1 a2 hl5
           go_wp2
           refine bodyPost_ret (qa (n := w.heap.size) rfl rfl (qL _ _ _ _ _ _ _ _ _ HQ.out) Tryz.underlying35 rfl (by kernel_rfl)) rfl ?_
           rw [HRZ.out]
           exact qbL.zero 2 (qai HB.out nlq _ _ _)
         · rw [decide_eq_false hi] at hZ
           have HRZ := Lib.hid (show R = (⟨fi,ft,fd⟩,0) by
            have e : R = _ := HR
            have e2 : l.length = en := HLL
            rw [e,if_pos ⟨e2.symm,hd,hi⟩]; rfl)
           clear HR hd hi
           go_wp2_with fail
           refine hDone.mono ?_
           rintro e w5 ⟨rfl,rfl⟩
           go_wp2_with fail
           refine (hZ _).mono ?_
           rintro e w6 ⟨rfl,hb6⟩
           have hr6' := (hb6.block _ (hlt hr5)).trans hr5
           have hq6 := (hb6.block _ (hlt hq5)).trans hq5
           have hl6 := hl5.below hb6 nlq
           have HB := Lib.hid (hbw5.trans (hb6.mono hbw5.size))
           obtain ⟨⟨b0,b1,b2⟩,⟨f0,f1,f2⟩⟩ := row3 hr6'
           obtain ⟨⟨c0,c1,c2⟩,_⟩ := row3 hq6
           have HQ := Lib.hid hr6'
           have HL := Lib.hid hl6
           have HDW := Lib.hid hDw
           clear hr6' hr5 hq5 hq6 hb6 hbw5 hZ a0 a1 a2 hl5 hl6 hDw
           go_wp2
           refine bodyPost_ret (qa (n := w.heap.size) rfl rfl (qL _ _ _ _ _ _ _ _ _ HQ.out) Tryz.underlying35 rfl (by kernel_rfl)) rfl ?_
           rw [HRZ.out]
           refine ⟨D,c,rfl,HL.out.keep (by simp) fun h0 g off e _ => qcB _ (by have := HDW.out h0 g off e; omega) _ _ _,fun h0 g off e => Nat.le_of_lt (HDW.out h0 g off e),qai HB.out nlq _ _ _⟩
       · rw [decide_eq_false hd] at hDone
         have HRZ := Lib.hid (show R = (qaC,2) by
          have e : R = _ := HR
          rw [e,if_neg (fun h => hd h.2.1)]; rfl)
         have HB := Lib.hid hbw5
         have HQ := Lib.hid hr5
         obtain ⟨⟨b0,b1,b2⟩,⟨f0,f1,f2⟩⟩ := row3 hr5
         clear HR hd hr5 hq5 hbw5 hl5
         go_wp2_with fail
         refine hDone.mono ?_
         rintro e w5 ⟨rfl,rfl⟩
         go_wp2
         refine bodyPost_ret (qa (n := w.heap.size) rfl rfl (qL _ _ _ _ _ _ _ _ _ HQ.out) Tryz.underlying35 rfl (by kernel_rfl)) rfl ?_
         rw [HRZ.out]
         exact qbL.zero 2 (qai HB.out nlq _ _ _)
     · have h2b : ((en : Int) != (len : Int)) = true := by simp; omega
       have h2c : ((en : Int) = (len : Int)) = False := eq_false (by omega)
       have HR := Lib.hid (show R = (qaC,2) by rw [hR,if_neg (fun h => h2 (by rw [h.1,hll]))]; rfl)
       clear hR h2 hll hse
       go_enter Tryz.func90,Tryz.ntmps90
       go_wp2_with fail
       refine hS.mono ?_
       rintro e w2 ⟨A2,c2,rfl,_,hb2⟩
       obtain ⟨hr2,hbw⟩ := hfin w2 hb2
       obtain ⟨⟨a0,a1,a2⟩,⟨f0,f1,f2⟩⟩ := row3 hr2
       have HB := Lib.hid hbw
       have HQ := Lib.hid hr2
       clear hS hb2 hr2 hbw
       go_wp2
       refine bodyPost_ret (qa (n := w.heap.size) rfl rfl (qL _ _ _ _ _ _ _ _ _ HQ.out) Tryz.underlying35 rfl (by kernel_rfl)) rfl ?_
       rw [HR.out]
       exact qbL.zero 2 (qai HB.out nlq _ _ _)
 · have h1b : ((ls.length : Int) != 1) = true := by simp; omega
   have h1c : ((ls.length : Int) = 1) = False := eq_false (by omega)
   have HR := Lib.hid (show R = (qaC,2) by
    rw [hR]
    match ls,h1 with
    | [],_ => rfl
    | [a],h => exact absurd rfl h
    | a :: b :: t,_ => rfl)
   clear hR h1 hll hse
   go_enter Tryz.func90,Tryz.ntmps90
   go_wp2_with fail
   refine hS.mono ?_
   rintro e w2 ⟨A2,c2,rfl,_,hb2⟩
   obtain ⟨hr2,hbw⟩ := hfin w2 hb2
   obtain ⟨⟨a0,a1,a2⟩,⟨f0,f1,f2⟩⟩ := row3 hr2
   have HB := Lib.hid hbw
   have HQ := Lib.hid hr2
   clear hS hb2 hr2 hbw
   go_wp2
   refine bodyPost_ret (qa (n := w.heap.size) rfl rfl (qL _ _ _ _ _ _ _ _ _ HQ.out) Tryz.underlying35 rfl (by kernel_rfl)) rfl ?_
   rw [HR.out]
   exact qbL.zero 2 (qai HB.out nlq _ _ _)
theorem qgk {D : Dsk} (hg : Good D) (n : ByteArray) : (D.read n).1.size <= 1048576 := by
 have h1 := hg.usedN
 have h2 := qaF D.l n
 have h3 := qaT D.l n
 unfold Dsk.read
 split
 · exact Nat.zero_le _
 · split
   · exact Nat.zero_le _
   · dsimp only; omega
theorem qgJ (bb : ByteArray) : qaU (bb,0) = snapC (snapOf bb.data.toList) := by
 unfold qaU snapC
 rw [if_neg (by simp),if_neg (by simp)]
 split <;> rename_i h <;> rw [h]
theorem qhw (w : World) (d : Nat) (D : Dsk) (Z : Nat -> Prop) (h : Dk w d D Z) :
 Calls Tryz.prog 36 #[dptr d] w (qbL w D.snapV) := by
 have hb0 : Below w.heap.size w (w.alloc (.cells #[.int .i64 0, .int .i64 0, .slice none 0 0] 35)) := blq.alloc nlq _
 have hr0 := heap_alloc_new w (.cells #[.int .i64 0, .int .i64 0, .slice none 0 0] 35)
 have hz0 : (w.alloc (.cells #[.int .i64 0, .int .i64 0, .slice none 0 0] 35)).heap.size = w.heap.size + 1 := by simp
 have hA := qdy _ d D Z (h.below hb0) qal
 rw [hz0] at hA
 have hsz := qgk h.good qal
 unfold Dsk.snapV
 generalize D.read qal = r at *
 obtain ⟨bb,er⟩ := r
 dsimp only at *
 have hfin : ∀ w2,Below (w.heap.size + 1) (w.alloc (.cells #[.int .i64 0, .int .i64 0, .slice none 0 0] 35)) w2 -> w2.heap[w.heap.size]? = some (.cells #[.int .i64 0, .int .i64 0, .slice none 0 0] 35) /\ Below w.heap.size w w2 := fun w2 hb2 => ⟨(hb2.block _ (by omega)).trans hr0,hb0.trans (hb2.mono (by omega))⟩
 clear hb0 hr0 h hz0
 by_cases h0 : er = 0
 · subst h0
   rw [qgJ]
   have hF := fun A cap w1 (hl : Lies w1 A bb.size cap bb.data.toList) => qja A bb.size cap bb.data.toList w1 hl (by omega)
   generalize snapC (snapOf bb.data.toList) = R at *
   go_enter Tryz.func36,Tryz.ntmps36
   go_wp2_with fail
   refine hA.mono ?_
   rintro e w1 ⟨A,cap,rfl,hl,hb1⟩
   obtain ⟨hr1,hbw1⟩ := hfin w1 hb1
   have hF1 := hF A cap w1 hl
   clear hA hb1 hl hF hsz
   go_wp2_with fail
   refine hF1.mono ?_
   rintro e w2 ⟨B,c,rfl,hlB,hB,hb2⟩
   have hr2 := (hb2.block _ (hlt hr1)).trans hr1
   have hlt1 : w.heap.size < w1.heap.size := hlt hr1
   have HB := Lib.hid (hbw1.trans (hb2.mono hbw1.size))
   have HQ := Lib.hid hr2
   have HL := Lib.hid hlB
   have HN := Lib.hid hB
   obtain ⟨⟨a0,a1,a2⟩,⟨f0,f1,f2⟩⟩ := row3 hr2
   obtain ⟨⟨ri,rt,rd⟩,rc⟩ := R
   dsimp only at *
   clear hF1 hr2 hlB hB hb2 hbw1 hr1 hfin
   go_wp2
   refine bodyPost_ret (qa (n := w.heap.size) rfl rfl (qL _ _ _ _ _ _ _ _ _ HQ.out) Tryz.underlying35 rfl (by kernel_rfl)) rfl ?_
   exact ⟨B,c,rfl,HL.out.keep (by simp) fun h0 g off e _ => qcB _ (by have := HN.out h0 g off e; omega) _ _ _,fun h0 g off e => by have := HN.out h0 g off e; omega,qai HB.out nlq _ _ _⟩
 · by_cases h6 : er = 6
   · subst h6
     have HR : qaU (bb,6) = (qaC,0) := rfl
     rw [HR]
     go_enter Tryz.func36,Tryz.ntmps36
     go_wp2_with fail
     refine hA.mono ?_
     rintro e w1 ⟨A,cap,rfl,hl,hb1⟩
     obtain ⟨hr1,hbw1⟩ := hfin w1 hb1
     obtain ⟨⟨a0,a1,a2⟩,⟨f0,f1,f2⟩⟩ := row3 hr1
     have HB := Lib.hid hbw1
     have HQ := Lib.hid hr1
     clear hA hb1 hl hsz hr1 hbw1 hfin h0 HR
     go_wp2
     refine bodyPost_ret (qa (n := w.heap.size) rfl rfl (qL _ _ _ _ _ _ _ _ _ HQ.out) Tryz.underlying35 rfl (by kernel_rfl)) rfl ?_
     exact qbL.zero 0 (qai HB.out nlq _ _ _)
   · have HR : qaU (bb,er) = (qaC,er) := by unfold qaU; rw [if_neg h6,if_pos h0]
     rw [HR]
     have e6 : ((er : Int) == 6) = false := by simp; omega
     have e6' : ((er : Int) = 6) = False := eq_false (by omega)
     have e0 : ((er : Int) != 0) = true := by simp; omega
     have e0' : ((er : Int) = 0) = False := eq_false (by omega)
     clear HR h0 h6
     go_enter Tryz.func36,Tryz.ntmps36
     go_wp2_with fail
     refine hA.mono ?_
     rintro e w1 ⟨A,cap,rfl,hl,hb1⟩
     obtain ⟨hr1,hbw1⟩ := hfin w1 hb1
     obtain ⟨⟨a0,a1,a2⟩,⟨f0,f1,f2⟩⟩ := row3 hr1
     have HB := Lib.hid hbw1
     have HQ := Lib.hid hr1
     clear hA hb1 hl hsz hr1 hbw1 hfin
     go_wp2
     refine bodyPost_ret (qa (n := w.heap.size) rfl rfl (qL _ _ _ _ _ _ _ _ _ HQ.out) Tryz.underlying35 rfl (by kernel_rfl)) rfl ?_
     exact qbL.zero er (qai HB.out nlq _ _ _)
end Go.Proofs.YtmeoooojmhhahaaGreat
