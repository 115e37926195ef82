/- The call gather of a tree's node: the pairs between two places, behind those that are there already. -/
import Derived.Test.YtogbhedbgcmckaaGreatNNM06
import Derived.Test.YtogbhedbgcmckaaGreatNNM01
import Derived.Test.YtogbhedbgcmckaaGreatNNM02
import Derived.Test.YtogbhedbgcmckaaGreatNNM05
import Derived.Test.YtogbhedbgcmckaaGreatRows
import Derived.WalkSpells
import Derived.WalkLawsBesides
import Derived.KernelRfl
import Derived.IntWalk
import Derived.Outline
import Derived.Lib.Hide
import Derived.BigQuiet
import Derived.Deep.LoopGhost
set_option linter.unusedVariables false
set_option linter.unusedSimpArgs false
set_option maxRecDepth 100000
set_option maxHeartbeats 3200000
namespace Go.Proofs.YtogbhedbgcmckaaGreat.MapFl
open Go.RowKit Go.Proofs.YtogbhedbgcmckaaGreat
variable {P : Nat → Prop}
theorem qfd : (Tryz.prog.info? 95).map (fun i => (i.zero,i.size,i.bytes)) = some (some (.agg #[(Value.string ⟨#[]⟩),(Value.slice none 0 0),(Value.int .i64 0)]),3,48) := by kernel_rfl
def cellsL (l : List (ByteArray × FV)) : List Value := l.flatMap fun p => [Value.string p.1,fvS p.2,fvN p.2]
theorem qg6 : cellsL [] = [] := rfl
theorem qdD (a b : List (ByteArray × FV)) : cellsL (a ++ b) = cellsL a ++ cellsL b := List.flatMap_append
theorem qg7 (p : ByteArray × FV) : cellsL [p] = [Value.string p.1,fvS p.2,fvN p.2] := rfl
def Gath (W : World) (n : Nat) (xs : List Value) (l : List (ByteArray × FV)) (e : Ending) (w' : World) : Prop :=
 ∃ g cap,e = .returned (.slice (some ⟨g,0,none⟩) (n + l.length) cap) /\ w'.ownsRow W.heap.size 95 3 (.slice (some ⟨g,0,none⟩) (n + l.length) cap) (n + l.length) (xs ++ cellsL l) /\ Below W.heap.size W w'
theorem qdp {W w : World} {n g cap : Nat} {xs : List Value} {l : List (ByteArray × FV)} (hl : l = []) (ho : w.ownsRow W.heap.size 95 3 (.slice (some ⟨g,0,none⟩) n cap) n xs) (hb : Below W.heap.size W w) :
 Gath W n xs l (.returned (.slice (some ⟨g,0,none⟩) n cap)) w := by
 subst hl;exact ⟨g,cap,rfl,by simpa [qg6] using ho,hb⟩
theorem qfe {W w : World} {n m : Nat} {xs xs1 : List Value} {pre l tot : List (ByteArray × FV)} {e : Ending} (h : Gath W m xs1 l e w) (h1 : RowKit.Hid (xs1 = xs ++ cellsL pre)) (h2 : RowKit.Hid (m = n + pre.length)) (h3 : RowKit.Hid (tot = pre ++ l)) : Gath W n xs tot e w := by
 have h1 := h1.out;have h2 := h2.out;have h3 := h3.out;subst h1 h2 h3;obtain ⟨g,cap,he,ho,hb⟩ := h;refine ⟨g,cap,?_,?_,hb⟩
 · rw [he,List.length_append,Nat.add_assoc]
 · rw [List.length_append,qdD,<- Nat.add_assoc,<- List.append_assoc]; exact ho
theorem qg8 (W : World) (t : T) : ∀ (u : Option Addr) (w : World) (g n cap : Nat) (xs : List Value) (f o : Int),Rp P W u t -> Below W.heap.size W w →
 w.ownsRow W.heap.size 95 3 (.slice (some ⟨g,0,none⟩) n cap) n xs -> n + t.size <= 4000000 -> (t.size : Int) <= f + 8000000 -> (t.size : Int) <= o + 8000000 -> f <= 4000000 -> o <= 4000000 →
 Calls Tryz.prog 120 #[.pointer u, .slice (some ⟨g,0,none⟩) n cap, .int .i64 f, .int .i64 o] w (Gath W n xs (Tr.sub f o t.list)) := by
 induction t with
 | nil =>
   intro u w g n cap xs f o h hb ho _ _ _ _ _;have h0 := h;obtain ⟨rfl,hE⟩ := h;have hg := qdp (l := Tr.sub f o ([] : List (ByteArray × FV))) (Tr.sub_nil f o) ho hb
   go_enter Tryz.func120,Tryz.ntmps120
   go_wp2;go_ret;exact hg
 | node nk nv l r ihl ihr =>
   intro u w g n cap xs f o h hb ho hs hf1 ho1 hf2 ho2;have hsz := Tr.size_node nk nv l r;obtain ⟨b,ul,ur,rfl,hPb,c0,c1,c1b,c2,c3,c4,c5,hl,hr⟩ := h;have hbW : b < W.heap.size := World.block_lt_of_cell? W _ c0
   have lenl : (l.list.length : Int) = l.size := by rw [Tr.length_list]
   by_cases h1 : o <= 0
   · have hg := qdp (l := Tr.sub f o (Tr.node nk nv l r).list) (Tr.sub_to f o _ h1) ho hb
     go_enter Tryz.func120,Tryz.ntmps120
     go_wp2;go_ret;exact hg
   · obtain ⟨sz,hsz'⟩ : ∃ sz : Nat,l.size + 1 + r.size = sz := ⟨_,rfl⟩;rw [hsz'] at c4 hsz;have d0 : w.cell? ⟨b,0,none⟩ = some (Value.string nk) := (hb.cell hbW).trans c0;obtain ⟨d1,d1b⟩ : w.cell? ⟨b,1,none⟩ = some (fvS nv) /\ w.cell? ⟨b,2,none⟩ = some (fvN nv) := ⟨(hb.cell hbW).trans c1,(hb.cell hbW).trans c1b⟩;have d2 : w.cell? ⟨b,3,none⟩ = some (.pointer ul) := (hb.cell hbW).trans c2;have d3 : w.cell? ⟨b,4,none⟩ = some (.pointer ur) := (hb.cell hbW).trans c3;have d4 : w.cell? ⟨b,5,none⟩ = some (.int .i64 (sz : Int)) := (hb.cell hbW).trans c4
     by_cases h2 : (sz : Int) <= f
     · have hg := qdp (l := Tr.sub f o (Tr.node nk nv l r).list) (Tr.sub_from f o _ (by rw [Tr.length_list,hsz]; exact h2)) ho hb;clear hsz hsz' lenl
       go_enter Tryz.func120,Tryz.ntmps120
       go_wp2;go_ret;exact hg
     · have h1' : 0 < o := by omega
       have h2' : f < (sz : Int) := by omega
       have hlb : (l.size : Int) <= 4000000 := by omega
       have hrb : (r.size : Int) <= 4000000 := by omega
       have bl1 : (l.size : Int) <= f + 8000000 := by omega
       have bl2 : (l.size : Int) <= o + 8000000 := by omega
       have br1 : (r.size : Int) <= (f - l.size - 1) + 8000000 := by omega
       have br2 : (r.size : Int) <= (o - l.size - 1) + 8000000 := by omega
       have br3 : f - l.size - 1 <= 4000000 := by omega
       have br4 : o - l.size - 1 <= 4000000 := by omega
       have bn1 : n + l.size <= 4000000 := by omega
       have bn2 : n + l.size + 1 + r.size <= 4000000 := by omega
       have hle : (Tr.sub f o l.list).length <= l.size := by unfold Tr.sub; rw [<- Tr.length_list]; simp; omega
       have HS : RowKit.Hid (Tr.sub f o (Tr.node nk nv l r).list = Tr.sub f o l.list ++ ((if f <= l.list.length /\ (l.list.length : Int) < o then [(nk,nv)] else []) ++ Tr.sub (f - l.list.length - 1) (o - l.list.length - 1) r.list)) := Tr.sub_node f o l.list r.list (nk,nv);rw [lenl] at HS;clear hsz hsz' lenl hs h1 h2;obtain ⟨i0,hi0,hz0,hz1,hz2⟩ := info_parts qfd
       by_cases h3 : f <= (l.size : Int) /\ (l.size : Int) < o
       · obtain ⟨h3a,h3b⟩ := h3
         have HT : RowKit.Hid (Tr.sub f o (Tr.node nk nv l r).list = (Tr.sub f o l.list ++ [(nk,nv)]) ++ Tr.sub (f - l.size - 1) (o - l.size - 1) r.list) := by
          have := HS.out;rw [if_pos ⟨h3a,h3b⟩] at this;rw [List.append_assoc]; exact this
         clear HS
         have IH : ∀ w',Below W.heap.size W w' -> ∀ g n cap xs,w'.ownsRow W.heap.size 95 3 (.slice (some ⟨g,0,none⟩) n cap) n xs -> n + r.size <= 4000000 →
          Calls Tryz.prog 120 #[.pointer ur, .slice (some ⟨g,0,none⟩) n cap, .int .i64 (f - l.size - 1), .int .i64 (o - l.size - 1)] w' (Gath W n xs (Tr.sub (f - l.size - 1) (o - l.size - 1) r.list)) :=
          fun w' hb' g n cap xs ho' hn => ihr ur w' g n cap xs _ _ hr hb' ho' hn br1 br2 br3 br4
         go_enter Tryz.func120,Tryz.ntmps120
         go_wp2_with (first
          | (go_at_call 121; refine (count_any (P := P) l ul _ (Rp.below hb (Nat.le_refl _) hl)).mono ?_; rintro e w' ⟨rfl,rfl⟩)
          | (go_at_call_of 120 (Value.pointer ul); refine (ihl ul _ g n cap xs f o hl hb ho bn1 bl1 bl2 hf2 ho2).mono ?_; rintro e w1 ⟨g1,cap1,rfl,ho1,hb1⟩
             generalize hm : n + (Tr.sub f o l.list).length = m at ho1 ⊢;have HM : RowKit.Hid (m = n + (Tr.sub f o l.list).length) := hm.symm
             have hm2 : m + 1 + r.size <= 4000000 := by omega
             clear hm;have e0 : w1.cell? ⟨b,0,none⟩ = some (Value.string nk) := (hb1.cell hbW).trans c0;obtain ⟨e1,e1b⟩ : w1.cell? ⟨b,1,none⟩ = some (fvS nv) /\ w1.cell? ⟨b,2,none⟩ = some (fvN nv) := ⟨(hb1.cell hbW).trans c1,(hb1.cell hbW).trans c1b⟩
             have hbw1 : b < w1.heap.size := Nat.lt_of_lt_of_le hbW hb1.size)
          | (at_builtin; refine wpList_append_lies _ rfl _ _ 90 rfl W.heap.size 95 i0 _ 3 48 Tryz.underlying90 hi0 hz0 hz1 hz2 rfl (by omega) (.slice (some ⟨g1,0,none⟩) m cap1) m _ rfl (ho1.alloc _) ⟨w1.heap.size,0,none⟩ 1 1 [Value.string nk,fvS nv,fvN nv] rfl rfl (World.news_of_block (heap_alloc_new w1 _)) (by simp [Value.oneCell']) (by omega) (by unfold maxLen; omega) (by omega) (by have := hb1.size; simp; omega) (w1.heap.size + 1) (by simp) ?_
             intro g2 cap2 w2 ho2 hgr2 hat2 hlt2;have hb2 : Below W.heap.size W w2 := (hb1.alloc hb1.size _).grown hgr2 (by have := hb1.size; simp; omega) (fun k hk => (ho1.lt k hk).1)
             have e3 : w2.cell? ⟨b,4,none⟩ = some (.pointer ur) := (hb2.cell hbW).trans c3)
          | (go_at_call_of 120 (Value.pointer ur); refine (IH w2 hb2 g2 (m + 1) cap2 _ ho2 hm2).mono ?_; rintro e w3 ⟨g3,cap3,rfl,ho3,hb3⟩
             have hG : Gath W (m + 1) (xs ++ cellsL (Tr.sub f o l.list) ++ [Value.string nk,fvS nv,fvN nv]) (Tr.sub (f - l.size - 1) (o - l.size - 1) r.list) (.returned (.slice (some ⟨g3,0,none⟩) (m + 1 + (Tr.sub (f - l.size - 1) (o - l.size - 1) r.list).length) cap3)) w3 := ⟨g3,cap3,rfl,ho3,hb3⟩
             clear ho3 hb3))
         go_ret;exact qfe (pre := Tr.sub f o l.list ++ [(nk,nv)]) hG (show _ = _ by rw [qdD,qg7,List.append_assoc]) (show _ = _ by rw [List.length_append,HM.out,Nat.add_assoc]; rfl) HT
       · have HT : RowKit.Hid (Tr.sub f o (Tr.node nk nv l r).list = Tr.sub f o l.list ++ Tr.sub (f - l.size - 1) (o - l.size - 1) r.list) := by
          have := HS.out;rw [if_neg h3] at this;rw [this]; rfl
         clear HS
         have IH : ∀ w',Below W.heap.size W w' -> ∀ g n cap xs,w'.ownsRow W.heap.size 95 3 (.slice (some ⟨g,0,none⟩) n cap) n xs -> n + r.size <= 4000000 →
          Calls Tryz.prog 120 #[.pointer ur, .slice (some ⟨g,0,none⟩) n cap, .int .i64 (f - l.size - 1), .int .i64 (o - l.size - 1)] w' (Gath W n xs (Tr.sub (f - l.size - 1) (o - l.size - 1) r.list)) :=
          fun w' hb' g n cap xs ho' hn => ihr ur w' g n cap xs _ _ hr hb' ho' hn br1 br2 br3 br4
         have h3' : (f <= (l.size : Int) /\ o <= (l.size : Int)) \/ (l.size : Int) < f := by omega
         clear h3;rcases h3' with ⟨h3a,h3b⟩ | h3a
         all_goals
          go_enter Tryz.func120,Tryz.ntmps120
          go_wp2_with (first
           | (go_at_call 121; refine (count_any (P := P) l ul _ (Rp.below hb (Nat.le_refl _) hl)).mono ?_; rintro e w' ⟨rfl,rfl⟩)
           | (go_at_call_of 120 (Value.pointer ul); refine (ihl ul _ g n cap xs f o hl hb ho bn1 bl1 bl2 hf2 ho2).mono ?_; rintro e w1 ⟨g1,cap1,rfl,ho1,hb1⟩
              generalize hm : n + (Tr.sub f o l.list).length = m at ho1 ⊢;have HM : RowKit.Hid (m = n + (Tr.sub f o l.list).length) := hm.symm
              have hm2 : m + r.size <= 4000000 := by omega
              clear hm
              have e3 : w1.cell? ⟨b,4,none⟩ = some (.pointer ur) := (hb1.cell hbW).trans c3)
           | (go_at_call_of 120 (Value.pointer ur); refine (IH w1 hb1 g1 m cap1 _ ho1 hm2).mono ?_; rintro e w3 ⟨g3,cap3,rfl,ho3,hb3⟩
              have hG : Gath W m (xs ++ cellsL (Tr.sub f o l.list)) (Tr.sub (f - l.size - 1) (o - l.size - 1) r.list) (.returned (.slice (some ⟨g3,0,none⟩) (m + (Tr.sub (f - l.size - 1) (o - l.size - 1) r.list).length) cap3)) w3 := ⟨g3,cap3,rfl,ho3,hb3⟩
              clear ho3 hb3))
          go_ret;exact qfe hG rfl HM HT
end Go.Proofs.YtogbhedbgcmckaaGreat.MapFl
set_option linter.unusedVariables false
set_option linter.unusedSimpArgs false
set_option maxRecDepth 100000
set_option maxHeartbeats 3200000
namespace Go.Proofs.YtogbhedbgcmckaaGreat.MapFl
open Go.RowKit Go.Proofs.YtogbhedbgcmckaaGreat
variable {P : Nat → Prop}
theorem put_map (t : T) (u : Option Addr) (k : ByteArray) (v : FV) (w : World) (h : Rp P w u t) (hs : t.size + 1 <= 4000000) :
 Calls Tryz.prog 76 #[.agg #[.pointer u],Value.string k,(.agg #[fvS v,fvN v])] w fun e w' => ∃ u',e = .returned (.agg #[.pointer u']) /\ Rp P w' u' (Tr.put ltS k v t) /\ Below w.heap.size w w' := by
 go_enter Tryz.func76,Tryz.ntmps76
 go_wp2_with (go_at_call 124; refine (qky (P := P) k v t u _ ?_ hs).mono ?_; (repeat (first | with_reducible exact h | refine Rp.alloc _ ?_ | refine Rp.drew ?_)); rintro e w1 ⟨u1,rfl,hr1,hb1⟩
              have hz : w.heap.size + 2 < w1.heap.size := by have := hb1.size; simp at this; omega
              have k0 : w1.cell? ⟨w.heap.size + 2,0,none⟩ = some (.pointer none) := (hb1.cell (by simp)).trans (by simp [go_sem]);have k1 : w1.cell? ⟨w.heap.size + 2,1,none⟩ = none := (hb1.cell (by simp)).trans (by simp [go_sem])
              have k2 : w1.frozen? ⟨w.heap.size + 2,0,none⟩ = false := (hb1.frozen (by simp)).trans (by simp [go_sem]))
 have ks : (w1.setCell ⟨w.heap.size + 2,0,none⟩ (.pointer u1)).cell? ⟨w.heap.size + 2,0,none⟩ = some (.pointer u1) := World.cell?_setCell_same _ _ _ k0;exact bodyPost_ret (v := .agg #[.pointer u1]) (by simp [results,Tryz.results76,go_sem,ks]) rfl ⟨u1,rfl,hr1.setCell k1 _,(Tr.below_of hb1 (by repeat (first | exact Below.refl _ _ | apply Below.drew | refine Below.alloc ?_ (by simp <;> omega) _))).setCell (by simp <;> omega) _⟩
theorem qff (t : T) (u : Option Addr) (k k' : ByteArray) (v' : FV) (a b : T) (hf : Tr.find ltS k t = .node k' v' a b) (w : World) (h : Rp P w u t) :
 Calls Tryz.prog 122 #[.pointer u,Value.string k] w fun e w' => ∃ b,e = .returned (.pointer (some ⟨b,0,none⟩)) /\ b < w.heap.size /\ (w.cell? ⟨b,1,none⟩ = some (fvS v') /\ w.cell? ⟨b,2,none⟩ = some (fvN v')) /\ w = w' := by
 have H := qfc (P := P) k t u w h;rw [hf] at H;refine H.mono ?_;rintro e w' ⟨u1,rfl,hr,rfl⟩;obtain ⟨b,ul,ur,rfl,hPb,c0,c1,c1b,c2,c3,c4,c5,hl,hr⟩ := hr;exact ⟨b,rfl,World.block_lt_of_cell? w _ c0,⟨c1,c1b⟩,rfl⟩
theorem qgK (t : T) (u : Option Addr) (k : ByteArray) (hf : Tr.find ltS k t = .nil) (w : World) (h : Rp P w u t) :
 Calls Tryz.prog 122 #[.pointer u,Value.string k] w fun e w' => e = .returned (.pointer none) /\ w = w' := by
 have H := qfc (P := P) k t u w h;rw [hf] at H;refine H.mono ?_;rintro e w' ⟨u1,rfl,hr,rfl⟩;obtain ⟨rfl,_⟩ := hr;exact ⟨rfl,rfl⟩
theorem qkB (t : T) (u : Option Addr) (w : World) (h : Rp P w u t) :
 Calls Tryz.prog 73 #[.agg #[.pointer u]] w fun e w' => e = .returned (.int .i64 (t.size : Int)) /\ Below w.heap.size w w' := by
 go_enter Tryz.func73,Tryz.ntmps73
 go_wp2_with (go_at_call 121; refine (count_any (P := P) t u _ ?_).mono ?_; (repeat (first | with_reducible exact h | refine Rp.alloc _ ?_ | refine Rp.drew ?_)); rintro e w1 ⟨rfl,rfl⟩)
 go_ret;exact ⟨rfl,(Below.refl _ _).alloc (Nat.le_refl _) _⟩
theorem get_yes (t : T) (u : Option Addr) (k k' : ByteArray) (v' : FV) (a b : T) (w : World) (h : Rp P w u t) (hf : Tr.find ltS k t = .node k' v' a b) :
 Calls Tryz.prog 74 #[.agg #[.pointer u],Value.string k] w fun e w' => e = .returned (.tuple #[(.agg #[fvS v',fvN v']), .bool true]) /\ Below w.heap.size w w' := by
 have H := fun w h => qff (P := P) t u k k' v' a b hf w h
 clear hf
 go_enter Tryz.func74,Tryz.ntmps74
 go_wp2_with (go_at_call 122; refine (H _ ?_).mono ?_; (repeat (first | with_reducible exact h | refine Rp.alloc _ ?_ | refine Rp.drew ?_)); rintro e w1 ⟨b,rfl,hbw,⟨c1,c1b⟩,rfl⟩)
 refine bodyPost_ret (qm (n := w.heap.size + 1) rfl rfl (heap_alloc2_new _ _ _) Tryz.underlying93 rfl (by kernel_rfl)) rfl ?_;exact ⟨rfl,((Below.refl _ _).alloc (Nat.le_refl _) _).alloc (by simp) _⟩
theorem get_no (t : T) (u : Option Addr) (k : ByteArray) (w : World) (h : Rp P w u t) (hf : Tr.find ltS k t = .nil) :
 Calls Tryz.prog 74 #[.agg #[.pointer u],Value.string k] w fun e w' => e = .returned (.tuple #[(.agg #[(Value.slice none 0 0),(Value.int .i64 0)]), .bool false]) /\ Below w.heap.size w w' := by
 have H := fun w h => qgK (P := P) t u k hf w h
 clear hf
 go_enter Tryz.func74,Tryz.ntmps74
 go_wp2_with (go_at_call 122; refine (H _ ?_).mono ?_; (repeat (first | with_reducible exact h | refine Rp.alloc _ ?_ | refine Rp.drew ?_)); rintro e w1 ⟨rfl,rfl⟩)
 have HX : (((w.alloc (.cells #[.pointer u] 86)).alloc (.cells #[(Value.slice none 0 0),(Value.int .i64 0)] 93)).alloc (.cells #[(Value.slice none 0 0),(Value.int .i64 0)] 93)).heap[w.heap.size + 1]? = some (.cells #[(Value.slice none 0 0),(Value.int .i64 0)] 93) := (Below.heap_alloc _ _ _ (by simp)).trans (heap_alloc2_new _ _ _);refine bodyPost_ret (qm (n := w.heap.size + 1) rfl rfl HX Tryz.underlying93 rfl (by kernel_rfl)) rfl ?_;exact ⟨rfl,(((Below.refl _ _).alloc (Nat.le_refl _) _).alloc (by simp) _).alloc (by simp; omega) _⟩
theorem qgc (t : T) (u : Option Addr) (k k' : ByteArray) (v' : FV) (a b : T) (w : World) (h : Rp P w u t) (hB : Tr.Bst ltS t) (hs : t.size <= 4000000) (hf : Tr.find ltS k t = .node k' v' a b) :
 Calls Tryz.prog 75 #[.agg #[.pointer u],Value.string k] w fun e w' => ∃ u',e = .returned (.agg #[.pointer u']) /\ Rp P w' u' (Tr.del ltS t k) /\ Below w.heap.size w w' := by
 have H := fun w h => qff (P := P) t u k k' v' a b hf w h
 have hf' : Tr.find ltS k t ≠ .nil := by rw [hf]; exact fun e => by cases e
 clear hf
 go_enter Tryz.func75,Tryz.ntmps75
 go_wp2_with (first
  | (go_at_call 122; refine (H _ ?_).mono ?_; (repeat (first | with_reducible exact h | refine Rp.alloc _ ?_ | refine Rp.drew ?_)); rintro e w1 ⟨b,rfl,hbw,_,rfl⟩)
  | (go_at_call 123; refine (qkA (P := P) t k u _ ?_ hB hf' hs).mono ?_; (repeat (first | with_reducible exact h | refine Rp.alloc _ ?_ | refine Rp.drew ?_)); rintro e w1 ⟨u1,rfl,hr1,hb1⟩
     have hz : w.heap.size + 1 < w1.heap.size := by have := hb1.size; simp at this; omega
     have k0 : w1.cell? ⟨w.heap.size + 1,0,none⟩ = some (.pointer none) := (hb1.cell (by simp)).trans (by simp [go_sem]);have k1 : w1.cell? ⟨w.heap.size + 1,1,none⟩ = none := (hb1.cell (by simp)).trans (by simp [go_sem])
     have k2 : w1.frozen? ⟨w.heap.size + 1,0,none⟩ = false := (hb1.frozen (by simp)).trans (by simp [go_sem])))
 have ks : (w1.setCell ⟨w.heap.size + 1,0,none⟩ (.pointer u1)).cell? ⟨w.heap.size + 1,0,none⟩ = some (.pointer u1) := World.cell?_setCell_same _ _ _ k0;exact bodyPost_ret (v := .agg #[.pointer u1]) (by simp [results,Tryz.results75,go_sem,ks]) rfl ⟨u1,rfl,hr1.setCell k1 _,(Tr.below_of hb1 (by repeat (first | exact Below.refl _ _ | apply Below.drew | refine Below.alloc ?_ (by simp <;> omega) _))).setCell (by simp <;> omega) _⟩
theorem qg9 (t : T) (u : Option Addr) (k : ByteArray) (w : World) (h : Rp P w u t) (hf : Tr.find ltS k t = .nil) :
 Calls Tryz.prog 75 #[.agg #[.pointer u],Value.string k] w fun e w' => ∃ u',e = .returned (.agg #[.pointer u']) /\ Rp P w' u' t /\ Below w.heap.size w w' := by
 have H := fun w h => qgK (P := P) t u k hf w h
 clear hf
 go_enter Tryz.func75,Tryz.ntmps75
 go_wp2_with (go_at_call 122; refine (H _ ?_).mono ?_; (repeat (first | with_reducible exact h | refine Rp.alloc _ ?_ | refine Rp.drew ?_)); rintro e w1 ⟨rfl,rfl⟩)
 exact bodyPost_ret (v := .agg #[.pointer u]) (by simp [results,Tryz.results75,go_sem]) rfl ⟨u,rfl,(h.alloc _).alloc _,((Below.refl _ _).alloc (Nat.le_refl _) _).alloc (by simp) _⟩
theorem del_map (t : T) (u : Option Addr) (k : ByteArray) (w : World) (h : Rp P w u t) (hB : Tr.Bst ltS t) (hs : t.size <= 4000000) :
 Calls Tryz.prog 75 #[.agg #[.pointer u],Value.string k] w fun e w' => ∃ u' t',e = .returned (.agg #[.pointer u']) /\ Rp P w' u' t' /\ (t' = Tr.del ltS t k /\ Tr.find ltS k t ≠ .nil \/ t' = t /\ Tr.find ltS k t = .nil) /\ Below w.heap.size w w' := by
 cases hf : Tr.find ltS k t with
 | nil => exact (qg9 t u k w h hf).mono fun e w' ⟨u',he,hr,hb⟩ => ⟨u',t,he,hr, .inr ⟨rfl,rfl⟩,hb⟩
 | node k' v' a b => exact (qgc t u k k' v' a b w h hB hs hf).mono fun e w' ⟨u',he,hr,hb⟩ => ⟨u',Tr.del ltS t k,he,hr, .inl ⟨rfl,fun e => by cases e⟩,hb⟩
theorem qfg {w : World} {B B' : Nat} {e : TypeId} {size n : Nat} {v : Value} {xs : List Value} (h : w.ownsRow B e size v n xs) (hB : B' <= B) : w.ownsRow B' e size v n xs := by
 obtain ⟨h1,h2⟩ := h;rcases h2 with h2 | ⟨g,cap,cur,a,b,c⟩
 · exact ⟨h1, .inl h2⟩
 · exact ⟨h1, .inr ⟨g,cap,cur,a,Nat.le_trans hB b,c⟩⟩
def Lst (w : World) (l : List (ByteArray × FV)) (e : Ending) (w' : World) : Prop :=
 ∃ A c,e = .returned (.slice A l.length c) /\ w'.ownsRow w.heap.size 95 3 (.slice A l.length c) l.length (cellsL l) /\ Below w.heap.size w w'
theorem qha (t : T) (u : Option Addr) (f o : Nat) (w : World) (h : Rp P w u t) (hs : t.size <= 4000000) (hf : f <= 4000000) (ho : o <= 4000000) :
 Calls Tryz.prog 72 #[.agg #[.pointer u], .int .i64 f, .int .i64 o] w (Lst w (Tr.sub f o t.list)) := by
 by_cases hfo : o <= f
 · have HE : RowKit.Hid (Tr.sub f o t.list = []) := (show _ = _ from Tr.sub_none f o t.list hfo)
   have hfo' : (o : Int) <= (f : Int) := by omega
   go_enter Tryz.func72,Tryz.ntmps72
   go_wp2;go_ret;rw [HE.out];exact ⟨none,0,rfl,World.ownsRow_nil _ _ _ _,(Below.refl _ _).alloc (Nat.le_refl _) _⟩
 · obtain ⟨c,hc⟩ := exq (o - f)
   have hfo' : (f : Int) < (o : Int) := by omega
   have hcb : c <= 4000000 := by omega
   have e1 : IntKind.i64.wrap ((o : Int) - (f : Int)) = (c : Int) := by rw [IntWalk.i64_in _ (by omega)]; omega
   have bf1 : (t.size : Int) <= (f : Int) + 8000000 := by omega
   have bf2 : (t.size : Int) <= (o : Int) + 8000000 := by omega
   have bf3 : (f : Int) <= 4000000 := by omega
   have bf4 : (o : Int) <= 4000000 := by omega
   clear hc hfo;obtain ⟨i0,hi0,hz0,hz1,hz2⟩ := info_parts qfd
   have hmk : ∀ w1 : World,(Instr.makeSlice 90 (.int .i64 0) (.int .i64 (c : Int))).run Tryz.prog w1 = .ok (.slice (some ⟨w1.heap.size,0,none⟩) 0 c) (w1.alloc (.cells (madeCells #[(Value.string ⟨#[]⟩),(Value.slice none 0 0),(Value.int .i64 0)] (c * 3)) 95)) := fun w1 => by
    have := run_make (P := Tryz.prog) w1 90 95 i0 _ Tryz.underlying90 hi0 hz0 .i64 .i64 0 (c : Int) (Int.le_refl _) (by omega) (by rw [hz2]; omega) (by omega);rw [hz1] at this;exact this
   clear hz0 hz1 hz2 hi0
   have hown : ((w.alloc (.cells #[.pointer u] 86)).alloc (.cells (madeCells #[(Value.string ⟨#[]⟩),(Value.slice none 0 0),(Value.int .i64 0)] (c * 3)) 95)).ownsRow (w.alloc (.cells #[.pointer u] 86)).heap.size 95 3 (.slice (some ⟨w.heap.size + 1,0,none⟩) 0 c) 0 [] := by
    have := World.ownsRow_made (base := (w.alloc (.cells #[.pointer u] 86)).heap.size) (e := 95) (size := 3) (w.alloc (.cells #[.pointer u] 86)) (madeCells #[(Value.string ⟨#[]⟩),(Value.slice none 0 0),(Value.int .i64 0)] (c * 3)) c (Nat.le_refl _) (by unfold maxLen; omega) (size_madeCells _ _)
    rwa [show (⟨(w.alloc (.cells #[.pointer u] 86)).heap.size,0,none⟩ : Addr) = ⟨w.heap.size + 1,0,none⟩ by rw [World.size_alloc]] at this
   go_enter Tryz.func72,Tryz.ntmps72
   go_wp2
   go_region_held3 (fun w' => w'.cell? ⟨w.heap.size,0,none⟩ = some (.pointer u)) (first | go_keep | (refine (hb1.cell (by simp)).trans ?_; simp [go_sem]))
    (first
      | (go_at_call 120
         refine (qg8 (P := P) (w.alloc (.cells #[.pointer u] 86)) t u _ (w.heap.size + 1) 0 c [] f o (h.alloc _) ?_ ?_ (by omega) bf1 bf2 bf3 bf4).mono ?_;exact ((Below.refl _ _).alloc (Nat.le_refl _) _).drew;exact hown;rintro e w1 ⟨g1,cap1,rfl,ho1,hb1⟩
         rw [Nat.zero_add] at ho1 ⊢))
   go_wp2;go_ret;exact ⟨_,_,rfl,qfg ho1 (by simp),Tr.below_of hb1 (by repeat (first | exact Below.refl _ _ | apply Below.drew | refine Below.alloc ?_ (by simp <;> omega) _))⟩
theorem all_map (t : T) (u : Option Addr) (w : World) (h : Rp P w u t) (hs : t.size <= 4000000) :
 Calls Tryz.prog 34 #[.agg #[.pointer u]] w (Lst w t.list) := by
 have H := fun w h => qha (P := P) t u 0 t.size w h hs (by omega) hs
 rw [Tr.sub_all t.list (Tr.length_list t)] at H
 go_enter Tryz.func34,Tryz.ntmps34
 go_wp2
 go_region_held3 (fun w' => w'.cell? ⟨w.heap.size,0,none⟩ = some (.pointer u)) (first | go_keep | (refine (hb1.cell (by simp)).trans ?_; simp [go_sem]))
  (first
    | (go_at_call 73; refine (qkB (P := P) t u _ ?_).mono ?_; (repeat (first | with_reducible exact h | refine Rp.alloc _ ?_ | refine Rp.drew ?_)); rintro e w1 ⟨rfl,hb1⟩)
    | (go_at_call 72; refine (H _ (h.below (Tr.below_of hb1 (by repeat (first | exact Below.refl _ _ | apply Below.drew | refine Below.alloc ?_ (by simp <;> omega) _))) (Nat.le_refl _))).mono ?_; rintro e w2 ⟨A,c,rfl,ho2,hb2⟩; have hw := hb1.size; replace hb1 := hb1.trans (hb2.mono hb1.size)))
 go_wp2;go_ret;exact ⟨_,_,rfl,qfg ho2 (Nat.le_trans (by simp) hw),Tr.below_of hb1 (by repeat (first | exact Below.refl _ _ | apply Below.drew | refine Below.alloc ?_ (by simp <;> omega) _))⟩
end Go.Proofs.YtogbhedbgcmckaaGreat.MapFl
set_option linter.unusedVariables false
set_option linter.unusedSimpArgs false
set_option maxRecDepth 100000
set_option maxHeartbeats 200000
namespace Go.Proofs.YtogbhedbgcmckaaGreat
open Go.RowKit
abbrev FT := MapFl.T
def qj (p : ByteArray × FV) : Fil := ⟨p.1,⟨p.2.l.toArray⟩,p.2.safe⟩
abbrev blk (v : FV) : Option Nat := (fvS v).ownBlock
def qbD (D : Dsk) : Int := if D.set then D.n else -1
abbrev Pn (M : Nat -> Prop) (w : World) : Nat -> Prop := fun k => ¬ M k \/ w.heap.size <= k
structure qc0 (w : World) (M Z : Nat -> Prop) (v : FV) : Prop where
 own : FRow w 0 v
 out : ∀ g,blk v = some g -> ¬ M g /\ ¬ Z g
structure Dt (w : World) (d : Nat) (D : Dsk) (M Z : Nat -> Prop) (X : ByteArray -> Prop) (t : FT) : Prop where
 box : ∃ u,w.heap[d]? = some (.cells #[.int .i64 D.room, .int .i64 ((qo D.l : Nat) : Int), .pointer u, .int .i64 (qbD D), .bool D.lost] 88) /\ MapFl.Rp (Pn M w) w u t
 bst : Tr.Bst ltS t
 fil : t.list.map qj = D.l
 row : ∀ p ∈ t.list,¬ X p.1 -> qc0 w M Z p.2
 apart : ∀ a ∈ t.list,∀ b ∈ t.list,a.1 ≠ b.1 -> ¬ X a.1 -> ¬ X b.1 -> ∀ g,blk a.2 = some g -> blk b.2 ≠ some g
 own : ¬ M d /\ ¬ Z d
abbrev noX : ByteArray -> Prop := fun _ => False
theorem Pn.ev {M : Nat -> Prop} {w : World} (h : ∀ k,M k -> k < w.heap.size) : ∀ k,w.heap.size <= k -> Pn M w k := fun k hk => .inr hk
theorem Dt.lt {w : World} {d : Nat} {D : Dsk} {M Z : Nat -> Prop} {X : ByteArray -> Prop} {t : FT} (h : Dt w d D M Z X t) : d < w.heap.size := by
 obtain ⟨u,hb,_⟩ := h.box;exact hlt hb
theorem qc0.lt {w : World} {M Z : Nat -> Prop} {v : FV} (h : qc0 w M Z v) {g : Nat} (hg : blk v = some g) : g < w.heap.size := (h.own.lt g hg).2
theorem FRow.ne {w : World} {v : FV} (h : FRow w 0 v) {d : Nat} {cs : Array Value} (hd : w.heap[d]? = some (.cells cs 88)) : blk v ≠ some d := by
 intro e;rcases h.2 with ⟨e1,h0⟩ | ⟨g,cap,cur,e1,_,hg,_⟩
 · rw [blk,e1] at e; cases e
 · rw [blk,e1] at e;injection e with e;have e : g = d := e;subst e;rw [hd] at hg;injection hg with hg;injection hg with _ ht
   revert ht
   decide
theorem qc0.ne {w : World} {M Z : Nat -> Prop} {v : FV} (h : qc0 w M Z v) {d : Nat} {cs : Array Value} (hd : w.heap[d]? = some (.cells cs 88)) : blk v ≠ some d := FRow.ne h.own hd
theorem Dt.carry {w w' : World} {d : Nat} {D : Dsk} {M M' Z Z' : Nat -> Prop} {X : ByteArray -> Prop} {t : FT} (h : Dt w d D M Z X t) (hs : w.heap.size <= w'.heap.size)
 (hM : ∀ k,M' k -> M k \/ w.heap.size <= k) (hZ : ∀ k,Z' k -> Z k \/ w.heap.size <= k) (hb : ∀ k,k < w.heap.size -> ¬ M k -> w'.heap[k]? = w.heap[k]?) : Dt w' d D M' Z' X t := by
 obtain ⟨u,hbx,hr⟩ := h.box;have hd := h.lt
 have ho : ∀ k,k < w.heap.size -> ¬ M k /\ ¬ Z k -> ¬ M' k /\ ¬ Z' k := fun k hk ⟨h1,h2⟩ => ⟨fun e => (hM k e).elim h1 (by omega),fun e => (hZ k e).elim h2 (by omega)⟩
 refine ⟨⟨u,(hb d hd h.own.1).trans hbx,hr.carry (fun k hk => .inr hk) fun b hlt hP _ => ?_⟩,h.bst,h.fil,fun p hp hx => ⟨(h.row p hp hx).own.keep fun g hg => hb g ((h.row p hp hx).lt hg) ((h.row p hp hx).out g hg).1,fun g hg => ho g ((h.row p hp hx).lt hg) ((h.row p hp hx).out g hg)⟩,h.apart,ho d hd h.own⟩;have hM0 : ¬ M b := hP.elim id (fun e => by omega);exact ⟨.inl fun e => (hM b e).elim hM0 (by omega),hb b hlt hM0⟩
theorem Dt.below {w w' : World} {d : Nat} {D : Dsk} {M Z : Nat -> Prop} {X : ByteArray -> Prop} {t : FT} (h : Dt w d D M Z X t) (hb : Below w.heap.size w w') : Dt w' d D M Z X t :=
 h.carry hb.size (fun k hk => .inl hk) (fun k hk => .inl hk) fun k hk _ => hb.block k hk
theorem Dt.turn {w w' : World} {d : Nat} {D D' : Dsk} {M Z : Nat -> Prop} {X : ByteArray -> Prop} {t : FT} {u : Option Addr} (h : Dt w d D M Z X t) (hk : qa (· ≠ d) w w')
 (hb : w'.heap[d]? = some (.cells #[.int .i64 D'.room, .int .i64 ((qo D'.l : Nat) : Int), .pointer u, .int .i64 (qbD D'), .bool D'.lost] 88))
 (hu : ∀ cs,w.heap[d]? = some (.cells cs 88) -> cs[2]? = some (.pointer u)) (hl : D'.l = D.l) : Dt w' d D' M Z X t := by
 obtain ⟨u0,hbx,hr⟩ := h.box;have hd := h.lt;have e := hu _ hbx;injection e with e;injection e with e;subst e;refine ⟨⟨u0,hb,hr.carry (fun k hk => .inr hk) fun b hlt hP ⟨k,hc⟩ => ?_⟩,h.bst,h.fil.trans hl.symm,fun p hp hx => ⟨(h.row p hp hx).own.keep fun g hg => hk.block g ((h.row p hp hx).lt hg) (fun e => (h.row p hp hx).ne hbx (e ▸ hg)),(h.row p hp hx).out⟩,h.apart,h.own⟩
 have hne : b ≠ d := by
  rintro rfl;rw [cell_of_row _ _ _ _ _ _ hbx] at hc;cases hc
 exact ⟨hP.elim .inl (fun e => by omega),hk.block b hlt hne⟩
theorem qhb {l : List (ByteArray × FV)} (h : l.Pairwise fun a b => ltS a.1 b.1 = true) : (l.map qj).Pairwise fun a b => ltS a.name b.name = true := by
 rw [List.pairwise_map]; exact h
theorem Dt.sort {w : World} {d : Nat} {D : Dsk} {M Z : Nat -> Prop} {X : ByteArray -> Prop} {t : FT} (h : Dt w d D M Z X t) : D.l.Pairwise fun a b => ltS a.name b.name = true := by
 rw [<- h.fil]; exact qhb h.bst
theorem Dt.size {w : World} {d : Nat} {D : Dsk} {M Z : Nat -> Prop} {X : ByteArray -> Prop} {t : FT} (h : Dt w d D M Z X t) : t.size = D.l.length := by
 rw [<- Tr.length_list,<- h.fil,List.length_map]
theorem Dt.get {w : World} {d : Nat} {D : Dsk} {M Z : Nat -> Prop} {X : ByteArray -> Prop} {t : FT} (h : Dt w d D M Z X t) {name : ByteArray} {v : FV} (hm : (name,v) ∈ t.list) : getF D.l name = (qj (name,v),true) :=
 qjG (f := qj (name,v)) h.sort (by rw [<- h.fil]; exact List.mem_map_of_mem hm)
theorem Dt.getno {w : World} {d : Nat} {D : Dsk} {M Z : Nat -> Prop} {X : ByteArray -> Prop} {t : FT} (h : Dt w d D M Z X t) {name : ByteArray} (hm : ∀ p ∈ t.list,p.1 ≠ name) : getF D.l name = (⟨name,ByteArray.empty,0⟩,false) :=
 qig fun g hg => by
  rw [<- h.fil] at hg;obtain ⟨p,hp,rfl⟩ := List.mem_map.1 hg;exact hm p hp
def noFV : FV := ⟨none,0,[],0⟩
theorem Dt.has {w : World} {d : Nat} {D : Dsk} {M Z : Nat -> Prop} {X : ByteArray -> Prop} {t : FT} (h : Dt w d D M Z X t) (name : ByteArray) :
 (∃ v a b,Tr.find ltS name t = .node name v a b /\ (name,v) ∈ t.list /\ getF D.l name = (qj (name,v),true)) ∨
 (Tr.find ltS name t = .nil /\ (∀ p ∈ t.list,p.1 ≠ name) /\ getF D.l name = (⟨name,ByteArray.empty,0⟩,false)) := by
 cases hf : Tr.find ltS name t with
 | nil =>
   have := Tr.find_mem linS name t h.bst hf;exact .inr ⟨rfl,this,h.getno this⟩
 | node k v a b =>
   obtain ⟨rfl,hm⟩ := Tr.find_node linS name t hf;exact .inl ⟨v,a,b,rfl,hm,h.get hm⟩
theorem qdq {l : List (ByteArray × FV)} (h : l.Pairwise fun a b => ltS a.1 b.1 = true) (k : ByteArray) :
 l.filter (fun p => ltS p.1 k || ltS k p.1) = l.filter (fun p => ltS p.1 k) ++ l.filter (fun p => ltS k p.1) := by
 induction l with
 | nil => rfl
 | cons a l ih =>
   rw [List.pairwise_cons] at h;have ih := ih h.2;simp only [List.filter_cons]
   cases h1 : ltS a.1 k with
   | true => rw [qak h1,ih]; simp
   | false =>
     cases h2 : ltS k a.1 with
     | false => simpa using ih
     | true =>
       have hn : l.filter (fun p => ltS p.1 k) = [] := List.filter_eq_nil_iff.2 fun p hp => by rw [qak (qbO h2 (h.1 p hp))]; decide
       rw [ih,hn]; simp
theorem qjH (l : List (ByteArray × FV)) (name : ByteArray) (v : FV) (h : 0 < v.l.length) : (Tr.insL ltS name v l).map qj = putF (l.map qj) (qj (name,v)) := by
 unfold Tr.insL putF;have : 0 < (qj (name,v)).b.size := h;rw [if_pos this]
 simp [List.filter_map,Function.comp_def,qj]
theorem qjI {l : List (ByteArray × FV)} (hs : l.Pairwise fun a b => ltS a.1 b.1 = true) (name : ByteArray) (f : Fil) (hn : f.name = name) (h : f.b.size = 0) : (Tr.delL ltS name l).map qj = putF (l.map qj) f := by
 unfold Tr.delL putF;rw [qdq hs,hn,if_neg (by omega)]
 simp [List.filter_map,Function.comp_def,qj]
theorem qfh {l : List (ByteArray × FV)} {name : ByteArray} {v : FV} {p : ByteArray × FV} (h : p ∈ Tr.insL ltS name v l) : p = (name,v) \/ (p ∈ l /\ p.1 ≠ name) := by
 unfold Tr.insL at h;rcases List.mem_append.1 h with h | h
 · obtain ⟨h1,h2⟩ := List.mem_filter.1 h;exact .inr ⟨h1,fun e => by rw [e,qah] at h2; cases h2⟩
 · rcases List.mem_cons.1 h with h | h
   · exact .inl h
   · obtain ⟨h1,h2⟩ := List.mem_filter.1 h;exact .inr ⟨h1,fun e => by rw [e,qah] at h2; cases h2⟩
theorem qfi {l : List (ByteArray × FV)} {name : ByteArray} {p : ByteArray × FV} (h : p ∈ Tr.delL ltS name l) : p ∈ l /\ p.1 ≠ name := by
 obtain ⟨h1,h2⟩ := List.mem_filter.1 h;exact ⟨h1,fun e => by rw [e,qah] at h2; cases h2⟩
theorem qkr {a b : ByteArray} (h : a ≠ b) : ltS a b = true \/ ltS b a = true := by
 cases h1 : ltS a b with
 | true => exact .inl rfl
 | false =>
   cases h2 : ltS b a with
   | true => exact .inr rfl
   | false => exact absurd (qa7 h1 h2) h
theorem qkC {l : List (ByteArray × FV)} {name : ByteArray} {v : FV} {p : ByteArray × FV} (h : p ∈ l) (hn : p.1 ≠ name) : p ∈ Tr.insL ltS name v l := by
 unfold Tr.insL;rcases qkr hn with h1 | h1
 · exact List.mem_append_left _ (List.mem_filter.2 ⟨h,h1⟩)
 · exact List.mem_append_right _ (List.mem_cons_of_mem _ (List.mem_filter.2 ⟨h,h1⟩))
theorem qkD {l : List (ByteArray × FV)} {name : ByteArray} {p : ByteArray × FV} (h : p ∈ l) (hn : p.1 ≠ name) : p ∈ Tr.delL ltS name l := by
 refine List.mem_filter.2 ⟨h,?_⟩
 rcases qkr hn with h1 | h1 <;> simp [h1]
theorem qgd {l : List Fil} (h : l.Pairwise fun a b => ltS a.name b.name = true) (name : ByteArray) : qo (l.filter (isN name)) = (getF l name).1.b.size := by
 induction l with
 | nil => rfl
 | cons a l ih =>
   rw [List.pairwise_cons] at h;have ih := ih h.2;unfold getF at *;rw [List.filter_cons,List.find?_cons]
   cases hq : isN name a with
   | false => simpa using ih
   | true =>
     have hn : l.filter (isN name) = [] := List.filter_eq_nil_iff.2 fun g hg hgn => by
      have := h.1 g hg;rw [qaR hq,qaR hgn,qah] at this;cases this
     rw [hn]
     simp [qo]
theorem Dt.used {w : World} {d : Nat} {D : Dsk} {M Z : Nat -> Prop} {X : ByteArray -> Prop} {t : FT} (h : Dt w d D M Z X t) (f : Fil) : qo (putF D.l f) + (getF D.l f.name).1.b.size = qo D.l + f.b.size := by
 rw [<- qgd h.sort,qbQ]
theorem qfj {w w' : World} {d : Nat} {cs : Array Value} {T : TypeId} {fr : Nat × Nat} {P : Nat -> Prop} {u : Option Addr} {t : FT} {z : Int} {rest : List Value} (hbx : w.heap[d]? = some (.cells cs T fr)) (h0 : cs.toList = .int .i64 z :: rest) (hr : MapFl.Rp P w u t) (hk : qa (· ≠ d) w w') : MapFl.Rp P w' u t :=
 hr.carry (fun k hk' => hr.ev k (Nat.le_trans hk.size hk')) fun b hlt hP ⟨k,hc⟩ => ⟨hP,hk.block b hlt fun e => by
  subst e;rw [cell_of_row _ _ _ _ _ _ hbx] at hc;rw [<- Array.getElem?_toList,h0] at hc
  cases hc⟩
theorem Dt.fin {w w4 : World} {d : Nat} {D D' : Dsk} {M Z : Nat -> Prop} {t t' : FT} {name : ByteArray} {v : FV} {u1 : Option Addr} (h : Dt w d D M Z (· = name) t) (hk : qa (· ≠ d) w w4) (hM : ∀ k,M k -> k < w.heap.size)
 (hb : w4.heap[d]? = some (.cells #[.int .i64 D'.room, .int .i64 ((qo D'.l : Nat) : Int), .pointer u1, .int .i64 (qbD D'), .bool D'.lost] 88)) (hr : MapFl.Rp (Pn M w) w4 u1 t') (hbst : Tr.Bst ltS t') (hfil : t'.list.map qj = D'.l)
 (hmem : ∀ p ∈ t'.list,p = (name,v) \/ (p ∈ t.list /\ p.1 ≠ name)) (hv : FRow w 0 v) (hvo : ∀ g,blk v = some g -> ¬ M g /\ ¬ Z g) (hva : ∀ p ∈ t.list,p.1 ≠ name -> ∀ g,blk v = some g -> blk p.2 ≠ some g) : Dt w4 d D' M Z noX t' := by
 obtain ⟨u,hbx,_⟩ := h.box
 have hr4 : MapFl.Rp (Pn M w4) w4 u1 t' := hr.carry (fun k hk => .inr hk) fun b hlt hP _ => ⟨.inl fun e => by
  rcases hP with hP | hP
  · exact hP e
  · have := hM b e; omega,rfl⟩
 have hrow : ∀ p ∈ t'.list,¬ noX p.1 -> qc0 w4 M Z p.2 := by
  intro p hp _;rcases hmem p hp with rfl | ⟨hp,hne⟩
  · exact ⟨hv.keep fun g hg => hk.block g (hv.lt g hg).2 fun e => hv.ne hbx (e ▸ hg),hvo⟩
  · have hrw := h.row p hp hne;exact ⟨hrw.own.keep fun g hg => hk.block g (hrw.lt hg) fun e => hrw.ne hbx (e ▸ hg),hrw.out⟩
 have hap : ∀ a ∈ t'.list,∀ b ∈ t'.list,a.1 ≠ b.1 -> ¬ noX a.1 -> ¬ noX b.1 -> ∀ g,blk a.2 = some g -> blk b.2 ≠ some g := by
  intro a ha b hb' hab _ _ g hg;rcases hmem a ha with rfl | ⟨ha,hna⟩
  · rcases hmem b hb' with rfl | ⟨hb',hnb⟩
    · exact absurd rfl hab
    · exact hva b hb' hnb g hg
  · rcases hmem b hb' with rfl | ⟨hb',hnb⟩
    · exact fun e => hva a ha hna g e hg
    · exact h.apart a ha b hb' hab hna hnb g hg
 exact ⟨⟨u1,hb,hr4⟩,hbst,hfil,hrow,hap,h.own⟩
theorem MapFl.Rp.setCell' {w : World} {d i : Nat} {x : Value} {z : Int} {v1 v2 v3 v4 : Value} {T : TypeId} {P : Nat -> Prop} {u : Option Addr} {t : FT} (hr : MapFl.Rp P w u t) (hbx : w.heap[d]? = some (.cells #[.int .i64 z,v1,v2,v3,v4] T)) : MapFl.Rp P (w.setCell ⟨d,i,none⟩ x) u t :=
 qfj hbx (List.toList_toArray) hr (qg w ⟨d,i,none⟩ x (fun h => h rfl))
end Go.Proofs.YtogbhedbgcmckaaGreat
set_option linter.unusedVariables false
set_option linter.unusedSimpArgs false
set_option maxRecDepth 100000
set_option maxHeartbeats 200000
namespace Go.Proofs.YtogbhedbgcmckaaGreat
open Go.RowKit
def filL (f : Fil) : List Value := [.string f.name, .string f.b, .int .i64 (f.safe : Int)]
def qli (l : List Fil) : List Value := l.flatMap filL
section
variable {w w' : World} {A : Option Addr} {cap : Nat} {l : List Fil}
end
theorem qge (l : List UInt8) (b : UInt8) : qad (l ++ [b]) = (qad l && !(decide (b.toNat < 33) || decide (126 < b.toNat))) := by simp [qad]
theorem qgf (s : ByteArray) (k : Nat) (h : k < s.size) : qad (s.data.toList.take (k + 1)) = (qad (s.data.toList.take k) && !(decide ((s[k]).toNat < 33) || decide (126 < (s[k]).toNat))) := by
 rw [List.take_succ_eq_append_getElem (by simpa using h),qge]; rfl
theorem qin (l : List UInt8) (k : Nat) (h : qad (l.take k) = false) : qad l = false := by
 rw [<- List.take_append_drop k l];simp only [qad,List.all_append] at h ⊢;rw [h]; rfl
theorem qei (s : ByteArray) (k : Nat) (h : qad (s.data.toList.take k) = false) : qF s = false := by
 unfold qF; rw [qin _ _ h,Bool.and_false]
end Go.Proofs.YtogbhedbgcmckaaGreat
