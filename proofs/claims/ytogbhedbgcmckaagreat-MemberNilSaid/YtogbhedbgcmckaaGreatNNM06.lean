/- The calls leanRight, leanLeft and balance of a tree's node, each by its contract. -/
import Derived.Test.YtogbhedbgcmckaaGreatNNM05
import Derived.Deep.LoopGhost
set_option linter.unusedVariables false
set_option linter.unusedSimpArgs false
set_option maxRecDepth 100000
set_option maxHeartbeats 3200000
namespace Go.Proofs.YtogbhedbgcmckaaGreat.MapFl
open Go.RowKit Go.Proofs.YtogbhedbgcmckaaGreat
variable {P : Nat → Prop}
theorem qih (lk k : ByteArray) (lv v : FV) (ll lr r : T) (ul ur : Option Addr) (w : World) (hl : Rp P w ul (.node lk lv ll lr)) (hr : Rp P w ur r) (hs : (ll.size + 1 + lr.size) + 1 + r.size <= 4000000) (hd : lr.deep <= ll.deep) :
 Calls Tryz.prog 195 #[.pointer ul, .agg #[Value.string k,fvS v,fvN v], .pointer ur] w fun e w' => ∃ u,e = .returned (.pointer u) /\ Rp P w' u (.node lk lv ll (.node k v lr r)) /\ Below w.heap.size w w' := by
 obtain ⟨b,ull,ulr,rfl,hPb,c0,c1,c1b,c2,c3,c4,c5,hll,hlr⟩ := hl;have hbw : b < w.heap.size := World.block_lt_of_cell? w _ c0;have hd' : decide (lr.deep <= ll.deep) = true := decide_eq_true hd
 go_enter Tryz.func195,Tryz.ntmps195
 go_wp2
 go_region_held3 (fun w' => w'.cell? ⟨b,3,none⟩ = some (.pointer ull)) (go_keep)
  (first
    | (go_at_call_of 194 (Value.pointer ulr); refine (qJ (P := P) lr ulr _ ?_).mono ?_; (repeat (first | with_reducible exact hlr | refine Rp.alloc _ ?_ | refine Rp.drew ?_)); rintro e w' ⟨rfl,rfl⟩)
    | (go_at_call_of 194 (Value.pointer ull); refine (qJ (P := P) ll ull _ ?_).mono ?_; (repeat (first | with_reducible exact hll | refine Rp.alloc _ ?_ | refine Rp.drew ?_)); rintro e w' ⟨rfl,rfl⟩))
 go_wp2
 go_region_held3 (fun w' => (w'.cell? ⟨b,0,none⟩ = some (Value.string lk) /\ w'.cell? ⟨b,1,none⟩ = some (fvS lv) /\ w'.cell? ⟨b,2,none⟩ = some (fvN lv) /\ w'.cell? ⟨b,3,none⟩ = some (.pointer ull)) /\ w'.cell? ⟨w.heap.size,0,none⟩ = some (Value.string k) /\ w'.cell? ⟨w.heap.size,1,none⟩ = some (fvS v) /\ w'.cell? ⟨w.heap.size,2,none⟩ = some (fvN v))
  (first | go_keep | ((repeat' apply And.intro) <;> (refine (hb1.cell (by simp <;> omega)).trans ?_; simp [go_sem, *])))
  (first
    | (go_at_call_of 167 (Value.pointer ur); refine (qX (P := P) lr r ulr ur _ _ _ ?_ ?_ (by omega)).mono ?_; (repeat (first | with_reducible exact hlr | refine Rp.alloc _ ?_ | refine Rp.drew ?_)); (repeat (first | with_reducible exact hr | refine Rp.alloc _ ?_ | refine Rp.drew ?_)); rintro e w1 ⟨u1,rfl,hr1,hb1⟩)
    | (go_at_call_of 167 (Value.pointer ull); refine (qX (P := P) ll (.node k v lr r) ull u1 _ _ _ ?_ ?_ (by simp only [Tr.size_node]; omega)).mono ?_; refine Rp.below hb1 (Nat.le_refl _) ?_; (repeat (first | with_reducible exact hll | refine Rp.alloc _ ?_ | refine Rp.drew ?_)); exact hr1; rintro e w2 ⟨u2,rfl,hr2,hb2⟩; replace hb1 := hb1.trans (hb2.mono hb1.size)))
 go_wp2;go_ret;exact ⟨_,rfl,hr2,Tr.below_of hb1 (by repeat (first | exact Below.refl _ _ | apply Below.drew | refine Below.alloc ?_ (by simp <;> omega) _))⟩
theorem qii (lk mk k : ByteArray) (lv mv v : FV) (ll ml mr r : T) (ul ur : Option Addr) (w : World) (hl : Rp P w ul (.node lk lv ll (.node mk mv ml mr))) (hr : Rp P w ur r)
 (hs : (ll.size + 1 + (ml.size + 1 + mr.size)) + 1 + r.size <= 4000000) (hd : ll.deep < Nat.max ml.deep mr.deep + 1) :
 Calls Tryz.prog 195 #[.pointer ul, .agg #[Value.string k,fvS v,fvN v], .pointer ur] w fun e w' => ∃ u,e = .returned (.pointer u) /\ Rp P w' u (.node mk mv (.node lk lv ll ml) (.node k v mr r)) /\ Below w.heap.size w w' := by
 obtain ⟨b,ull,ulr,rfl,hPb,c0,c1,c1b,c2,c3,c4,c5,hll,hlr⟩ := hl;have hlr' := hlr;obtain ⟨m,uml,umr,rfl,hPd,d0,d1,d1b,d2,d3,d4,d5,hml,hmr⟩ := hlr';have hbw : b < w.heap.size := World.block_lt_of_cell? w _ c0;have hmw : m < w.heap.size := World.block_lt_of_cell? w _ d0;have hd' : decide ((Tr.node mk mv ml mr).deep <= ll.deep) = false := decide_eq_false (by rw [Tr.deep_node]; omega)
 go_enter Tryz.func195,Tryz.ntmps195
 go_wp2
 go_region_held3 (fun w' => w'.cell? ⟨b,3,none⟩ = some (.pointer ull)) (go_keep)
  (first
    | (go_at_call_of 194 (Value.pointer ull); refine (qJ (P := P) ll ull _ ?_).mono ?_; (repeat (first | with_reducible exact hll | refine Rp.alloc _ ?_ | refine Rp.drew ?_)); rintro e w' ⟨rfl,rfl⟩)
    | (go_at_call 194; refine (qJ (P := P) (.node mk mv ml mr) (some ⟨m,0,none⟩) _ ?_).mono ?_; (repeat (first | with_reducible exact hlr | refine Rp.alloc _ ?_ | refine Rp.drew ?_)); rintro e w' ⟨rfl,rfl⟩))
 go_wp2
 go_region_held3 (fun w' => (w'.cell? ⟨b,0,none⟩ = some (Value.string lk) /\ w'.cell? ⟨b,1,none⟩ = some (fvS lv) /\ w'.cell? ⟨b,2,none⟩ = some (fvN lv) /\ w'.cell? ⟨b,3,none⟩ = some (.pointer ull)) ∧
  (w'.cell? ⟨m,0,none⟩ = some (Value.string mk) /\ w'.cell? ⟨m,1,none⟩ = some (fvS mv) /\ w'.cell? ⟨m,2,none⟩ = some (fvN mv) /\ w'.cell? ⟨m,3,none⟩ = some (.pointer uml) /\ w'.cell? ⟨m,4,none⟩ = some (.pointer umr)) ∧
  w'.cell? ⟨w.heap.size,0,none⟩ = some (Value.string k) /\ w'.cell? ⟨w.heap.size,1,none⟩ = some (fvS v) /\ w'.cell? ⟨w.heap.size,2,none⟩ = some (fvN v))
  (first | go_keep | ((repeat' apply And.intro) <;> (refine (hb1.cell (by simp <;> omega)).trans ?_; simp [go_sem, *])))
  (first
    | (go_at_call_of 167 (Value.pointer ull); refine (qX (P := P) ll ml ull uml _ _ _ ?_ ?_ (by omega)).mono ?_; (repeat (first | with_reducible exact hll | refine Rp.alloc _ ?_ | refine Rp.drew ?_)); (repeat (first | with_reducible exact hml | refine Rp.alloc _ ?_ | refine Rp.drew ?_)); rintro e w1 ⟨u1,rfl,hr1,hb1⟩)
    | (go_at_call_of 167 (Value.pointer ur); refine (qX (P := P) mr r umr ur _ _ _ ?_ ?_ (by omega)).mono ?_; (refine Rp.below hb1 (Nat.le_refl _) ?_; (repeat (first | with_reducible exact hmr | refine Rp.alloc _ ?_ | refine Rp.drew ?_))); (refine Rp.below hb1 (Nat.le_refl _) ?_; (repeat (first | with_reducible exact hr | refine Rp.alloc _ ?_ | refine Rp.drew ?_))); rintro e w2 ⟨u2,rfl,hr2,hb2⟩; replace hr1 := hr1.below hb2 (Nat.le_refl _); replace hb1 := hb1.trans (hb2.mono hb1.size))
    | (go_at_call_of 167 (Value.pointer u1); refine (qX (P := P) (.node lk lv ll ml) (.node k v mr r) u1 u2 _ _ _ hr1 hr2 (by simp only [Tr.size_node]; omega)).mono ?_; rintro e w3 ⟨u3,rfl,hr3,hb3⟩; replace hb1 := hb1.trans (hb3.mono hb1.size)))
 go_wp2;go_ret;exact ⟨_,rfl,hr3,Tr.below_of hb1 (by repeat (first | exact Below.refl _ _ | apply Below.drew | refine Below.alloc ?_ (by simp <;> omega) _))⟩
theorem qij (rk k : ByteArray) (rv v : FV) (l rl rr : T) (ul ur : Option Addr) (w : World) (hr : Rp P w ur (.node rk rv rl rr)) (hl : Rp P w ul l) (hs : l.size + 1 + (rl.size + 1 + rr.size) <= 4000000) (hd : rl.deep <= rr.deep) :
 Calls Tryz.prog 196 #[.pointer ul, .agg #[Value.string k,fvS v,fvN v], .pointer ur] w fun e w' => ∃ u,e = .returned (.pointer u) /\ Rp P w' u (.node rk rv (.node k v l rl) rr) /\ Below w.heap.size w w' := by
 obtain ⟨b,url,urr,rfl,hPb,c0,c1,c1b,c2,c3,c4,c5,hrl,hrr⟩ := hr;have hbw : b < w.heap.size := World.block_lt_of_cell? w _ c0;have hd' : decide (rl.deep <= rr.deep) = true := decide_eq_true hd
 go_enter Tryz.func196,Tryz.ntmps196
 go_wp2
 go_region_held3 (fun w' => w'.cell? ⟨b,4,none⟩ = some (.pointer urr)) (go_keep)
  (first
    | (go_at_call_of 194 (Value.pointer url); refine (qJ (P := P) rl url _ ?_).mono ?_; (repeat (first | with_reducible exact hrl | refine Rp.alloc _ ?_ | refine Rp.drew ?_)); rintro e w' ⟨rfl,rfl⟩)
    | (go_at_call_of 194 (Value.pointer urr); refine (qJ (P := P) rr urr _ ?_).mono ?_; (repeat (first | with_reducible exact hrr | refine Rp.alloc _ ?_ | refine Rp.drew ?_)); rintro e w' ⟨rfl,rfl⟩))
 go_wp2
 go_region_held3 (fun w' => (w'.cell? ⟨b,0,none⟩ = some (Value.string rk) /\ w'.cell? ⟨b,1,none⟩ = some (fvS rv) /\ w'.cell? ⟨b,2,none⟩ = some (fvN rv) /\ w'.cell? ⟨b,4,none⟩ = some (.pointer urr)) /\ w'.cell? ⟨w.heap.size,0,none⟩ = some (Value.string k) /\ w'.cell? ⟨w.heap.size,1,none⟩ = some (fvS v) /\ w'.cell? ⟨w.heap.size,2,none⟩ = some (fvN v))
  (first | go_keep | ((repeat' apply And.intro) <;> (refine (hb1.cell (by simp <;> omega)).trans ?_; simp [go_sem, *])))
  (first
    | (go_at_call_of 167 (Value.pointer ul); refine (qX (P := P) l rl ul url _ _ _ ?_ ?_ (by omega)).mono ?_; (repeat (first | with_reducible exact hl | refine Rp.alloc _ ?_ | refine Rp.drew ?_)); (repeat (first | with_reducible exact hrl | refine Rp.alloc _ ?_ | refine Rp.drew ?_)); rintro e w1 ⟨u1,rfl,hr1,hb1⟩)
    | (go_at_call_of 167 (Value.pointer urr); refine (qX (P := P) (.node k v l rl) rr u1 urr _ _ _ hr1 ?_ (by simp only [Tr.size_node]; omega)).mono ?_; refine Rp.below hb1 (Nat.le_refl _) ?_; (repeat (first | with_reducible exact hrr | refine Rp.alloc _ ?_ | refine Rp.drew ?_)); rintro e w2 ⟨u2,rfl,hr2,hb2⟩; replace hb1 := hb1.trans (hb2.mono hb1.size)))
 go_wp2;go_ret;exact ⟨_,rfl,hr2,Tr.below_of hb1 (by repeat (first | exact Below.refl _ _ | apply Below.drew | refine Below.alloc ?_ (by simp <;> omega) _))⟩
theorem qik (rk mk k : ByteArray) (rv mv v : FV) (l ml mr rr : T) (ul ur : Option Addr) (w : World) (hr : Rp P w ur (.node rk rv (.node mk mv ml mr) rr)) (hl : Rp P w ul l)
 (hs : l.size + 1 + ((ml.size + 1 + mr.size) + 1 + rr.size) <= 4000000) (hd : rr.deep < Nat.max ml.deep mr.deep + 1) :
 Calls Tryz.prog 196 #[.pointer ul, .agg #[Value.string k,fvS v,fvN v], .pointer ur] w fun e w' => ∃ u,e = .returned (.pointer u) /\ Rp P w' u (.node mk mv (.node k v l ml) (.node rk rv mr rr)) /\ Below w.heap.size w w' := by
 obtain ⟨b,url,urr,rfl,hPb,c0,c1,c1b,c2,c3,c4,c5,hrl,hrr⟩ := hr;have hrl' := hrl;obtain ⟨m,uml,umr,rfl,hPd,d0,d1,d1b,d2,d3,d4,d5,hml,hmr⟩ := hrl';have hbw : b < w.heap.size := World.block_lt_of_cell? w _ c0;have hmw : m < w.heap.size := World.block_lt_of_cell? w _ d0;have hd' : decide ((Tr.node mk mv ml mr).deep <= rr.deep) = false := decide_eq_false (by rw [Tr.deep_node]; omega)
 go_enter Tryz.func196,Tryz.ntmps196
 go_wp2
 go_region_held3 (fun w' => w'.cell? ⟨b,4,none⟩ = some (.pointer urr)) (go_keep)
  (first
    | (go_at_call_of 194 (Value.pointer urr); refine (qJ (P := P) rr urr _ ?_).mono ?_; (repeat (first | with_reducible exact hrr | refine Rp.alloc _ ?_ | refine Rp.drew ?_)); rintro e w' ⟨rfl,rfl⟩)
    | (go_at_call 194; refine (qJ (P := P) (.node mk mv ml mr) (some ⟨m,0,none⟩) _ ?_).mono ?_; (repeat (first | with_reducible exact hrl | refine Rp.alloc _ ?_ | refine Rp.drew ?_)); rintro e w' ⟨rfl,rfl⟩))
 go_wp2
 go_region_held3 (fun w' => (w'.cell? ⟨b,0,none⟩ = some (Value.string rk) /\ w'.cell? ⟨b,1,none⟩ = some (fvS rv) /\ w'.cell? ⟨b,2,none⟩ = some (fvN rv) /\ w'.cell? ⟨b,4,none⟩ = some (.pointer urr)) ∧
  (w'.cell? ⟨m,0,none⟩ = some (Value.string mk) /\ w'.cell? ⟨m,1,none⟩ = some (fvS mv) /\ w'.cell? ⟨m,2,none⟩ = some (fvN mv) /\ w'.cell? ⟨m,3,none⟩ = some (.pointer uml) /\ w'.cell? ⟨m,4,none⟩ = some (.pointer umr)) ∧
  w'.cell? ⟨w.heap.size,0,none⟩ = some (Value.string k) /\ w'.cell? ⟨w.heap.size,1,none⟩ = some (fvS v) /\ w'.cell? ⟨w.heap.size,2,none⟩ = some (fvN v))
  (first | go_keep | ((repeat' apply And.intro) <;> (refine (hb1.cell (by simp <;> omega)).trans ?_; simp [go_sem, *])))
  (first
    | (go_at_call_of 167 (Value.pointer ul); refine (qX (P := P) l ml ul uml _ _ _ ?_ ?_ (by omega)).mono ?_; (repeat (first | with_reducible exact hl | refine Rp.alloc _ ?_ | refine Rp.drew ?_)); (repeat (first | with_reducible exact hml | refine Rp.alloc _ ?_ | refine Rp.drew ?_)); rintro e w1 ⟨u1,rfl,hr1,hb1⟩)
    | (go_at_call_of 167 (Value.pointer urr); refine (qX (P := P) mr rr umr urr _ _ _ ?_ ?_ (by omega)).mono ?_; (refine Rp.below hb1 (Nat.le_refl _) ?_; (repeat (first | with_reducible exact hmr | refine Rp.alloc _ ?_ | refine Rp.drew ?_))); (refine Rp.below hb1 (Nat.le_refl _) ?_; (repeat (first | with_reducible exact hrr | refine Rp.alloc _ ?_ | refine Rp.drew ?_))); rintro e w2 ⟨u2,rfl,hr2,hb2⟩; replace hr1 := hr1.below hb2 (Nat.le_refl _); replace hb1 := hb1.trans (hb2.mono hb1.size))
    | (go_at_call_of 167 (Value.pointer u1); refine (qX (P := P) (.node k v l ml) (.node rk rv mr rr) u1 u2 _ _ _ hr1 hr2 (by simp only [Tr.size_node]; omega)).mono ?_; rintro e w3 ⟨u3,rfl,hr3,hb3⟩; replace hb1 := hb1.trans (hb3.mono hb1.size)))
 go_wp2;go_ret;exact ⟨_,rfl,hr3,Tr.below_of hb1 (by repeat (first | exact Below.refl _ _ | apply Below.drew | refine Below.alloc ?_ (by simp <;> omega) _))⟩
theorem qil (l r : T) (ul ur : Option Addr) (k : ByteArray) (v : FV) (w : World) (hl : Rp P w ul l) (hr : Rp P w ur r) (hs : l.size + 1 + r.size <= 4000000) (hd : 1 <= l.deep) :
 Calls Tryz.prog 195 #[.pointer ul, .agg #[Value.string k,fvS v,fvN v], .pointer ur] w fun e w' => ∃ u,e = .returned (.pointer u) /\ Rp P w' u (Tr.leanR l k v r) /\ Below w.heap.size w w' := by
 unfold Tr.leanR
 split
 · rw [Tr.deep_nil] at hd; omega
 · rename_i lk lv ll lr
   split
   · rename_i h; exact qih lk k lv v ll lr r ul ur w hl hr (by simpa only [Tr.size_node] using hs) h
   · rename_i h
     split
     · rw [Tr.deep_nil] at h; omega
     · rename_i mk mv ml mr; rw [Tr.deep_node] at h; exact qii lk mk k lv mv v ll ml mr r ul ur w hl hr (by simpa only [Tr.size_node] using hs) (by omega)
theorem qim (l r : T) (ul ur : Option Addr) (k : ByteArray) (v : FV) (w : World) (hl : Rp P w ul l) (hr : Rp P w ur r) (hs : l.size + 1 + r.size <= 4000000) (hd : 1 <= r.deep) :
 Calls Tryz.prog 196 #[.pointer ul, .agg #[Value.string k,fvS v,fvN v], .pointer ur] w fun e w' => ∃ u,e = .returned (.pointer u) /\ Rp P w' u (Tr.leanL l k v r) /\ Below w.heap.size w w' := by
 unfold Tr.leanL
 split
 · rw [Tr.deep_nil] at hd; omega
 · rename_i rk rv rl rr
   split
   · rename_i h; exact qij rk k rv v l rl rr ul ur w hr hl (by simpa only [Tr.size_node] using hs) h
   · rename_i h
     split
     · rw [Tr.deep_nil] at h; omega
     · rename_i mk mv ml mr; rw [Tr.deep_node] at h; exact qik rk mk k rv mv v l ml mr rr ul ur w hr hl (by simpa only [Tr.size_node] using hs) (by omega)
end Go.Proofs.YtogbhedbgcmckaaGreat.MapFl
set_option linter.unusedVariables false
set_option linter.unusedSimpArgs false
set_option maxRecDepth 100000
set_option maxHeartbeats 3200000
namespace Go.Proofs.YtogbhedbgcmckaaGreat.MapFl
open Go.RowKit Go.Proofs.YtogbhedbgcmckaaGreat
variable {P : Nat → Prop}
theorem qaL (l r : T) (ul ur : Option Addr) (k : ByteArray) (v : FV) (w : World) (hl : Rp P w ul l) (hr : Rp P w ur r) (hs : l.size + 1 + r.size <= 4000000) :
 Calls Tryz.prog 165 #[.pointer ul, .agg #[Value.string k,fvS v,fvN v], .pointer ur] w fun e w' => ∃ u,e = .returned (.pointer u) /\ Rp P w' u (Tr.bal l k v r) /\ Below w.heap.size w w' := by
 have dl := l.deep_le;have dr := r.deep_le;have e1 : IntKind.i64.wrap ((l.deep : Int) + 1) = (l.deep : Int) + 1 := IntWalk.i64_in _ (by omega);have e2 : IntKind.i64.wrap ((r.deep : Int) + 1) = (r.deep : Int) + 1 := IntWalk.i64_in _ (by omega)
 by_cases h1 : r.deep + 1 < l.deep
 · have h1' : (r.deep : Int) + 1 < (l.deep : Int) := by omega
   rw [show Tr.bal l k v r = Tr.leanR l k v r from if_pos h1]
   go_enter Tryz.func165,Tryz.ntmps165
   go_wp2_with (first
    | (go_at_call_of 194 (Value.pointer ul); refine (qJ (P := P) l ul _ ?_).mono ?_; (repeat (first | with_reducible exact hl | refine Rp.alloc _ ?_ | refine Rp.drew ?_)); rintro e w' ⟨rfl,rfl⟩)
    | (go_at_call_of 194 (Value.pointer ur); refine (qJ (P := P) r ur _ ?_).mono ?_; (repeat (first | with_reducible exact hr | refine Rp.alloc _ ?_ | refine Rp.drew ?_)); rintro e w' ⟨rfl,rfl⟩)
    | (go_at_call 195; refine (qil (P := P) l r ul ur _ _ _ ?_ ?_ hs (by omega)).mono ?_; (repeat (first | with_reducible exact hl | refine Rp.alloc _ ?_ | refine Rp.drew ?_)); (repeat (first | with_reducible exact hr | refine Rp.alloc _ ?_ | refine Rp.drew ?_)); rintro e w1 ⟨u1,rfl,hr1,hb1⟩))
   go_ret;exact ⟨_,rfl,hr1,Tr.below_of hb1 (by repeat (first | exact Below.refl _ _ | apply Below.drew | refine Below.alloc ?_ (by simp <;> omega) _))⟩
 · by_cases h2 : l.deep + 1 < r.deep
   · have h1' : (l.deep : Int) <= (r.deep : Int) + 1 := by omega
     have h2' : (l.deep : Int) + 1 < (r.deep : Int) := by omega
     rw [show Tr.bal l k v r = Tr.leanL l k v r from (if_neg h1).trans (if_pos h2)]
     go_enter Tryz.func165,Tryz.ntmps165
     go_wp2_with (first
      | (go_at_call_of 194 (Value.pointer ul); refine (qJ (P := P) l ul _ ?_).mono ?_; (repeat (first | with_reducible exact hl | refine Rp.alloc _ ?_ | refine Rp.drew ?_)); rintro e w' ⟨rfl,rfl⟩)
      | (go_at_call_of 194 (Value.pointer ur); refine (qJ (P := P) r ur _ ?_).mono ?_; (repeat (first | with_reducible exact hr | refine Rp.alloc _ ?_ | refine Rp.drew ?_)); rintro e w' ⟨rfl,rfl⟩)
      | (go_at_call 196; refine (qim (P := P) l r ul ur _ _ _ ?_ ?_ hs (by omega)).mono ?_; (repeat (first | with_reducible exact hl | refine Rp.alloc _ ?_ | refine Rp.drew ?_)); (repeat (first | with_reducible exact hr | refine Rp.alloc _ ?_ | refine Rp.drew ?_)); rintro e w1 ⟨u1,rfl,hr1,hb1⟩))
     go_ret;exact ⟨_,rfl,hr1,Tr.below_of hb1 (by repeat (first | exact Below.refl _ _ | apply Below.drew | refine Below.alloc ?_ (by simp <;> omega) _))⟩
   · have h1' : (l.deep : Int) <= (r.deep : Int) + 1 := by omega
     have h2' : (r.deep : Int) <= (l.deep : Int) + 1 := by omega
     rw [show Tr.bal l k v r = Tr.node k v l r from (if_neg h1).trans (if_neg h2)]
     go_enter Tryz.func165,Tryz.ntmps165
     go_wp2_with (first
      | (go_at_call_of 194 (Value.pointer ul); refine (qJ (P := P) l ul _ ?_).mono ?_; (repeat (first | with_reducible exact hl | refine Rp.alloc _ ?_ | refine Rp.drew ?_)); rintro e w' ⟨rfl,rfl⟩)
      | (go_at_call_of 194 (Value.pointer ur); refine (qJ (P := P) r ur _ ?_).mono ?_; (repeat (first | with_reducible exact hr | refine Rp.alloc _ ?_ | refine Rp.drew ?_)); rintro e w' ⟨rfl,rfl⟩)
      | (go_at_call 167; refine (qX (P := P) l r ul ur _ _ _ ?_ ?_ hs).mono ?_; (repeat (first | with_reducible exact hl | refine Rp.alloc _ ?_ | refine Rp.drew ?_)); (repeat (first | with_reducible exact hr | refine Rp.alloc _ ?_ | refine Rp.drew ?_)); rintro e w1 ⟨u1,rfl,hr1,hb1⟩))
     go_ret;exact ⟨_,rfl,hr1,Tr.below_of hb1 (by repeat (first | exact Below.refl _ _ | apply Below.drew | refine Below.alloc ?_ (by simp <;> omega) _))⟩
theorem qky (k : ByteArray) (v : FV) (t : T) : ∀ (u : Option Addr) (w : World),Rp P w u t -> t.size + 1 <= 4000000 →
 Calls Tryz.prog 124 #[.pointer u, .agg #[Value.string k,fvS v,fvN v]] w fun e w' => ∃ u',e = .returned (.pointer u') /\ Rp P w' u' (Tr.put ltS k v t) /\ Below w.heap.size w w' := by
 induction t with
 | nil =>
   intro u w h hs;have h0 := h;obtain ⟨rfl,hE⟩ := h
   go_enter Tryz.func124,Tryz.ntmps124
   go_wp2_with (go_at_call 167; refine (qX (P := P) .nil .nil none none _ _ _ ?_ ?_ (by simp only [Tr.size_nil]; omega)).mono ?_; (repeat (first | with_reducible exact h0 | refine Rp.alloc _ ?_ | refine Rp.drew ?_)); (repeat (first | with_reducible exact h0 | refine Rp.alloc _ ?_ | refine Rp.drew ?_)); rintro e w1 ⟨u1,rfl,hr1,hb1⟩)
   go_ret;exact ⟨_,rfl,hr1,Tr.below_of hb1 (by repeat (first | exact Below.refl _ _ | apply Below.drew | refine Below.alloc ?_ (by simp <;> omega) _))⟩
 | node nk nv l r ihl ihr =>
   intro u w h hs;rw [Tr.size_node] at hs;obtain ⟨b,ul,ur,rfl,hPb,c0,c1,c1b,c2,c3,c4,c5,hl,hr⟩ := h;have hbw : b < w.heap.size := World.block_lt_of_cell? w _ c0;have szl := Tr.size_put ltS k v l;have szr := Tr.size_put ltS k v r
   cases hlt : ltS k nk with
   | true =>
     rw [show Tr.put ltS k v (.node nk nv l r) = Tr.bal (Tr.put ltS k v l) nk nv r by rw [Tr.put,if_pos hlt]]
     go_enter Tryz.func124,Tryz.ntmps124
     go_wp2
     go_region_held3 (fun w' => w'.cell? ⟨b,0,none⟩ = some (Value.string nk) /\ w'.cell? ⟨w.heap.size,0,none⟩ = some (Value.string k)) (go_keep)
      (first
        | (go_at_call 164; refine (qfa _ _ hlt _).mono ?_; rintro e w' ⟨rfl,rfl⟩))
     go_wp2
     go_region_held3 (fun w' => (w'.cell? ⟨b,0,none⟩ = some (Value.string nk) /\ w'.cell? ⟨b,1,none⟩ = some (fvS nv) /\ w'.cell? ⟨b,2,none⟩ = some (fvN nv) /\ w'.cell? ⟨b,3,none⟩ = some (.pointer ul) /\ w'.cell? ⟨b,4,none⟩ = some (.pointer ur)) ∧
      w'.cell? ⟨w.heap.size,0,none⟩ = some (Value.string k) /\ w'.cell? ⟨w.heap.size,1,none⟩ = some (fvS v) /\ w'.cell? ⟨w.heap.size,2,none⟩ = some (fvN v))
      (first | go_keep | ((repeat' apply And.intro) <;> (refine (hb1.cell (by simp <;> omega)).trans ?_; simp [go_sem, *])))
      (first
        | (go_at_call 124; refine (ihl ul _ ?_ (by omega)).mono ?_; (repeat (first | with_reducible exact hl | refine Rp.alloc _ ?_ | refine Rp.drew ?_)); rintro e w1 ⟨u1,rfl,hr1,hb1⟩)
        | (go_at_call 165; refine (qaL (P := P) (Tr.put ltS k v l) r u1 ur _ _ _ hr1 ?_ (by omega)).mono ?_; refine Rp.below hb1 (Nat.le_refl _) ?_; (repeat (first | with_reducible exact hr | refine Rp.alloc _ ?_ | refine Rp.drew ?_)); rintro e w2 ⟨u2,rfl,hr2,hb2⟩; replace hb1 := hb1.trans (hb2.mono hb1.size)))
     go_wp2;go_ret;exact ⟨_,rfl,hr2,Tr.below_of hb1 (by repeat (first | exact Below.refl _ _ | apply Below.drew | refine Below.alloc ?_ (by simp <;> omega) _))⟩
   | false =>
     cases hgt : ltS nk k with
     | true =>
       rw [show Tr.put ltS k v (.node nk nv l r) = Tr.bal l nk nv (Tr.put ltS k v r) by rw [Tr.put,if_neg (by rw [hlt]; decide),if_pos hgt]]
       go_enter Tryz.func124,Tryz.ntmps124
       go_wp2
       go_region_held3 (fun w' => w'.cell? ⟨b,0,none⟩ = some (Value.string nk) /\ w'.cell? ⟨w.heap.size,0,none⟩ = some (Value.string k)) (go_keep)
        (first
          | (go_at_call 164; refine (qfb _ _ hgt _).mono ?_; rintro e w' ⟨rfl,rfl⟩))
       go_wp2
       go_region_held3 (fun w' => (w'.cell? ⟨b,0,none⟩ = some (Value.string nk) /\ w'.cell? ⟨b,1,none⟩ = some (fvS nv) /\ w'.cell? ⟨b,2,none⟩ = some (fvN nv) /\ w'.cell? ⟨b,3,none⟩ = some (.pointer ul) /\ w'.cell? ⟨b,4,none⟩ = some (.pointer ur)) ∧
        w'.cell? ⟨w.heap.size,0,none⟩ = some (Value.string k) /\ w'.cell? ⟨w.heap.size,1,none⟩ = some (fvS v) /\ w'.cell? ⟨w.heap.size,2,none⟩ = some (fvN v))
        (first | go_keep | ((repeat' apply And.intro) <;> (refine (hb1.cell (by simp <;> omega)).trans ?_; simp [go_sem, *])))
        (first
          | (go_at_call 124; refine (ihr ur _ ?_ (by omega)).mono ?_; (repeat (first | with_reducible exact hr | refine Rp.alloc _ ?_ | refine Rp.drew ?_)); rintro e w1 ⟨u1,rfl,hr1,hb1⟩)
          | (go_at_call 165; refine (qaL (P := P) l (Tr.put ltS k v r) ul u1 _ _ _ ?_ hr1 (by omega)).mono ?_; refine Rp.below hb1 (Nat.le_refl _) ?_; (repeat (first | with_reducible exact hl | refine Rp.alloc _ ?_ | refine Rp.drew ?_)); rintro e w2 ⟨u2,rfl,hr2,hb2⟩; replace hb1 := hb1.trans (hb2.mono hb1.size)))
       go_wp2;go_ret;exact ⟨_,rfl,hr2,Tr.below_of hb1 (by repeat (first | exact Below.refl _ _ | apply Below.drew | refine Below.alloc ?_ (by simp <;> omega) _))⟩
     | false =>
       obtain rfl : k = nk := qa7 hlt hgt;rw [show Tr.put ltS k v (.node k nv l r) = Tr.node k v l r by rw [Tr.put,if_neg (by rw [hlt]; decide),if_neg (by rw [hlt]; decide)]]
       go_enter Tryz.func124,Tryz.ntmps124
       go_wp2
       go_region_held3 (fun w' => w'.cell? ⟨b,0,none⟩ = some (Value.string k) /\ w'.cell? ⟨w.heap.size,0,none⟩ = some (Value.string k)) (go_keep)
        (first
          | (go_at_call 164; refine (cmp_eq _ _).mono ?_; rintro e w' ⟨rfl,rfl⟩))
       go_wp2
       go_region_held3 (fun w' => (w'.cell? ⟨b,3,none⟩ = some (.pointer ul) /\ w'.cell? ⟨b,4,none⟩ = some (.pointer ur)) ∧
        w'.cell? ⟨w.heap.size,0,none⟩ = some (Value.string k) /\ w'.cell? ⟨w.heap.size,1,none⟩ = some (fvS v) /\ w'.cell? ⟨w.heap.size,2,none⟩ = some (fvN v))
        (first | go_keep | ((repeat' apply And.intro) <;> (refine (hb1.cell (by simp <;> omega)).trans ?_; simp [go_sem, *])))
        (first
          | (go_at_call 167; refine (qX (P := P) l r ul ur _ _ _ ?_ ?_ (by omega)).mono ?_; (repeat (first | with_reducible exact hl | refine Rp.alloc _ ?_ | refine Rp.drew ?_)); (repeat (first | with_reducible exact hr | refine Rp.alloc _ ?_ | refine Rp.drew ?_)); rintro e w1 ⟨u1,rfl,hr1,hb1⟩))
       go_wp2;go_ret;exact ⟨_,rfl,hr1,Tr.below_of hb1 (by repeat (first | exact Below.refl _ _ | apply Below.drew | refine Below.alloc ?_ (by simp <;> omega) _))⟩
end Go.Proofs.YtogbhedbgcmckaaGreat.MapFl
set_option linter.unusedVariables false
set_option linter.unusedSimpArgs false
set_option maxRecDepth 100000
set_option maxHeartbeats 3200000
namespace Go.Proofs.YtogbhedbgcmckaaGreat.MapFl
open Go.RowKit Go.Proofs.YtogbhedbgcmckaaGreat
variable {P : Nat → Prop}
theorem qfc (k : ByteArray) (t : T) (u : Option Addr) (w : World) (h : Rp P w u t) :
 Calls Tryz.prog 122 #[.pointer u,Value.string k] w fun e w' => ∃ u',e = .returned (.pointer u') /\ Rp P w u' (Tr.find ltS k t) /\ w = w' := by
 generalize hF : Tr.find ltS k t = F
 go_enter Tryz.func122,Tryz.ntmps122
 go_wp2
 go_loopg [0] t.size (fun g p wr => w = wr /\ ∃ u' t',p = .pointer u' /\ Rp P w u' t' /\ t'.size <= g /\ RowKit.Hid (Tr.find ltS k t' = F))
 case atStart => exact ⟨rfl,u,t,rfl,h,Nat.le_refl _,hF⟩
 case round =>
  obtain ⟨rfl,u',t',rfl,h',hg,hF'⟩ := hrel
  cases t' with
  | nil =>
    obtain ⟨rfl,hE⟩ := h';have hF2 : Tr.nil = F := hF'.out
    have HR : Rp P w none F := by rw [<- hF2]; exact ⟨rfl,hE⟩
    clear hF2;go_wp2;go_ret;exact ⟨_,rfl,HR,rfl⟩
  | node nk nv l r =>
    have h2 := h';obtain ⟨b,ul,ur,rfl,hPb,c0,c1,c1b,c2,c3,c4,c5,hl,hr⟩ := h2;rw [Tr.size_node] at hg;have HF : RowKit.Hid ((if ltS k nk then Tr.find ltS k l else if ltS nk k then Tr.find ltS k r else .node nk nv l r) = F) := hF';clear hF'
    cases hlt : ltS k nk with
    | true =>
      have HL : RowKit.Hid (Tr.find ltS k l = F) := by have := HF.out; rw [if_pos hlt] at this; exact this
      go_wp2_with (go_at_call 164; refine (qfa _ _ hlt _).mono ?_; rintro e w' ⟨rfl,rfl⟩)
      go_roundg l.size
      case measure => omega
      case rel => exact ⟨rfl,ul,l,rfl,hl,Nat.le_refl _,HL⟩
    | false =>
      cases hgt : ltS nk k with
      | true =>
        have HL : RowKit.Hid (Tr.find ltS k r = F) := by have := HF.out; rw [if_neg (by rw [hlt]; decide),if_pos hgt] at this; exact this
        go_wp2_with (go_at_call 164; refine (qfb _ _ hgt _).mono ?_; rintro e w' ⟨rfl,rfl⟩)
        go_roundg r.size
        case measure => omega
        case rel => exact ⟨rfl,ur,r,rfl,hr,Nat.le_refl _,HL⟩
      | false =>
        obtain rfl : k = nk := qa7 hlt hgt
        have HR : Rp P w (some ⟨b,0,none⟩) F := by have := HF.out; rw [if_neg (by rw [hlt]; decide),if_neg (by rw [hlt]; decide)] at this; rw [<- this]; exact h'
        go_wp2_with (go_at_call 164; refine (cmp_eq _ _).mono ?_; rintro e w' ⟨rfl,rfl⟩)
        go_ret;exact ⟨_,rfl,HR,rfl⟩
theorem qk5 (t : T) (u : Option Addr) (i : Nat) (p : ByteArray × FV) (w : World) (h : Rp P w u t) (hs : t.size <= 4000000) (hp : t.list[i]? = some p) :
 Calls Tryz.prog 166 #[.pointer u, .int .i64 i] w fun e w' => e = .returned (.agg #[Value.string p.1,fvS p.2,fvN p.2]) /\ Below w.heap.size w w' := by
 go_enter Tryz.func166,Tryz.ntmps166
 go_wp2
 go_loopg [0,1] t.size (fun g n x wr => wr = w.alloc (.cells #[(Value.string ⟨#[]⟩),(Value.slice none 0 0),(Value.int .i64 0)] 95) /\ ∃ u' t' j,n = .pointer u' /\ x = .int .i64 ((j : Nat) : Int) /\ Rp P w u' t' /\ t'.size <= g /\ g <= t.size /\ RowKit.Hid (t'.list[j]? = some p))
 case atStart => exact ⟨rfl,u,t,i,rfl,rfl,h,Nat.le_refl _,Nat.le_refl _,hp⟩
 case round =>
  obtain ⟨rfl,u',t',j,rfl,rfl,h',hg,hg2,hp'⟩ := hrel;clear hp
  cases t' with
  | nil => exact absurd hp'.out (by simp [Tr.list])
  | node nk nv l r =>
    obtain ⟨b,ul,ur,rfl,hPb,c0,c1,c1b,c2,c3,c4,c5,hl,hr⟩ := h';rw [Tr.size_node] at hg;have HP : RowKit.Hid ((l.list ++ (nk,nv) :: r.list)[j]? = some p) := hp';clear hp';have hbw : b < w.heap.size := World.block_lt_of_cell? w _ c0;rcases Nat.lt_trichotomy j l.size with hj | hj | hj
    · have HL : RowKit.Hid (l.list[j]? = some p) := Tr.at_left HP.out (by rw [Tr.length_list]; exact hj)
      have hj' : (j : Int) < (l.size : Int) := by omega
      go_wp2_with (go_at_call 121; refine (count_any (P := P) l ul _ ?_).mono ?_; (repeat (first | with_reducible exact hl | refine Rp.alloc _ ?_ | refine Rp.drew ?_)); rintro e w' ⟨rfl,rfl⟩)
      go_roundg l.size
      case measure => omega
      case rel => exact ⟨rfl,ul,l,j,rfl,rfl,hl,Nat.le_refl _,by omega,HL⟩
    · have HE : RowKit.Hid ((nk,nv) = p) := Tr.at_here HP.out (by rw [Tr.length_list]; exact hj)
      have hj1 : (j : Int) <= (l.size : Int) := by omega
      have hj2 : (l.size : Int) <= (j : Int) := by omega
      go_wp2_with (go_at_call 121; refine (count_any (P := P) l ul _ ?_).mono ?_; (repeat (first | with_reducible exact hl | refine Rp.alloc _ ?_ | refine Rp.drew ?_)); rintro e w' ⟨rfl,rfl⟩)
      exact bodyPost_ret (v := .agg #[Value.string nk,fvS nv,fvN nv]) (by simp [results,Tryz.results166,go_sem]) rfl ⟨by rw [<- HE.out],(Below.refl _ _).alloc (Nat.le_refl _) _⟩
    · have HL : RowKit.Hid (r.list[j - l.size - 1]? = some p) := by have := Tr.at_right HP.out (by rw [Tr.length_list]; exact hj); rw [Tr.length_list] at this; exact this
      have hj1 : (l.size : Int) < (j : Int) := by omega
      have hx : j <= l.size + 1 + r.size := by
       have h0 := HP.out
       have : j < (l.list ++ (nk,nv) :: r.list).length := by
        rcases Nat.lt_or_ge j (l.list ++ (nk,nv) :: r.list).length with h1 | h1
        · exact h1
        · rw [List.getElem?_eq_none h1] at h0; cases h0
       rw [List.length_append,List.length_cons,Tr.length_list,Tr.length_list] at this;omega
      have hx' : (j : Int) <= 4000000 := by omega
      clear hx
      go_wp2_with (go_at_call 121; refine (count_any (P := P) l ul _ ?_).mono ?_; (repeat (first | with_reducible exact hl | refine Rp.alloc _ ?_ | refine Rp.drew ?_)); rintro e w' ⟨rfl,rfl⟩)
      go_roundg r.size
      case measure => omega
      case rel => exact ⟨rfl,ur,r,j - l.size - 1,rfl,by rw [show ((j - l.size - 1 : Nat) : Int) = (j : Int) - l.size - 1 by omega],hr,Nat.le_refl _,by omega,HL⟩
theorem qkz (t : T) (u : Option Addr) (p : ByteArray × FV) (w : World) (h : Rp P w u t) (hs : t.size <= 4000000) (hp : t.list[0]? = some p) :
 Calls Tryz.prog 166 #[.pointer u, .int .i64 0] w fun e w' => e = .returned (.agg #[Value.string p.1,fvS p.2,fvN p.2]) /\ Below w.heap.size w w' :=
 qk5 t u 0 p w h hs hp
theorem qkA (t : T) : ∀ (k : ByteArray) (u : Option Addr) (w : World),Rp P w u t -> Tr.Bst ltS t -> Tr.find ltS k t ≠ .nil -> t.size <= 4000000 →
 Calls Tryz.prog 123 #[.pointer u,Value.string k] w fun e w' => ∃ u',e = .returned (.pointer u') /\ Rp P w' u' (Tr.del ltS t k) /\ Below w.heap.size w w' := by
 induction t with
 | nil => intro k u w _ _ hf; exact absurd rfl hf
 | node nk nv l r ihl ihr =>
   intro k u w h hB hf hs;rw [Tr.size_node] at hs;obtain ⟨b,ul,ur,rfl,hPb,c0,c1,c1b,c2,c3,c4,c5,hl,hr⟩ := h;have hbw : b < w.heap.size := World.block_lt_of_cell? w _ c0;obtain ⟨hBl,hBr,hlk,hrk⟩ := hB.node;clear hB
   cases hlt : ltS k nk with
   | true =>
     have szl := Tr.size_del linS k hBl
     have hfl : Tr.find ltS k l ≠ .nil := by rwa [Tr.find,if_pos hlt] at hf
     clear hf hlk hrk;rw [show Tr.del ltS (.node nk nv l r) k = Tr.bal (Tr.del ltS l k) nk nv r by rw [Tr.del,if_pos hlt]]
     go_enter Tryz.func123,Tryz.ntmps123
     go_wp2_with (go_at_call 164; refine (qfa _ _ hlt _).mono ?_; rintro e w' ⟨rfl,rfl⟩)
     go_region_held3 (fun w' => w'.cell? ⟨b,0,none⟩ = some (Value.string nk) /\ w'.cell? ⟨b,1,none⟩ = some (fvS nv) /\ w'.cell? ⟨b,2,none⟩ = some (fvN nv) /\ w'.cell? ⟨b,3,none⟩ = some (.pointer ul) /\ w'.cell? ⟨b,4,none⟩ = some (.pointer ur))
      (first | go_keep | ((repeat' apply And.intro) <;> (refine (hb1.cell (by simp <;> omega)).trans ?_; simp [go_sem, *])))
      (first
        | (go_at_call 123; refine (ihl k ul _ ?_ hBl hfl (by omega)).mono ?_; (repeat (first | with_reducible exact hl | refine Rp.alloc _ ?_ | refine Rp.drew ?_)); rintro e w1 ⟨u1,rfl,hr1,hb1⟩)
        | (go_at_call 165; refine (qaL (P := P) (Tr.del ltS l k) r u1 ur _ _ _ hr1 ?_ (by omega)).mono ?_; refine Rp.below hb1 (Nat.le_refl _) ?_; (repeat (first | with_reducible exact hr | refine Rp.alloc _ ?_ | refine Rp.drew ?_)); rintro e w2 ⟨u2,rfl,hr2,hb2⟩; replace hb1 := hb1.trans (hb2.mono hb1.size)))
     go_wp2;go_ret;exact ⟨_,rfl,hr2,Tr.below_of hb1 (by repeat (first | exact Below.refl _ _ | apply Below.drew | refine Below.alloc ?_ (by simp <;> omega) _))⟩
   | false =>
     cases hgt : ltS nk k with
     | true =>
       have szr := Tr.size_del linS k hBr
       have hfr : Tr.find ltS k r ≠ .nil := by rwa [Tr.find,if_neg (by rw [hlt]; decide),if_pos hgt] at hf
       clear hf hlk hrk;rw [show Tr.del ltS (.node nk nv l r) k = Tr.bal l nk nv (Tr.del ltS r k) by rw [Tr.del,if_neg (by rw [hlt]; decide),if_pos hgt]]
       go_enter Tryz.func123,Tryz.ntmps123
       go_wp2_with (go_at_call 164; refine (qfb _ _ hgt _).mono ?_; rintro e w' ⟨rfl,rfl⟩)
       go_region_held3 (fun w' => w'.cell? ⟨b,0,none⟩ = some (Value.string nk) /\ w'.cell? ⟨b,1,none⟩ = some (fvS nv) /\ w'.cell? ⟨b,2,none⟩ = some (fvN nv) /\ w'.cell? ⟨b,3,none⟩ = some (.pointer ul) /\ w'.cell? ⟨b,4,none⟩ = some (.pointer ur))
        (first | go_keep | ((repeat' apply And.intro) <;> (refine (hb1.cell (by simp <;> omega)).trans ?_; simp [go_sem, *])))
        (first
          | (go_at_call 123; refine (ihr k ur _ ?_ hBr hfr (by omega)).mono ?_; (repeat (first | with_reducible exact hr | refine Rp.alloc _ ?_ | refine Rp.drew ?_)); rintro e w1 ⟨u1,rfl,hr1,hb1⟩)
          | (go_at_call 165; refine (qaL (P := P) l (Tr.del ltS r k) ul u1 _ _ _ ?_ hr1 (by omega)).mono ?_; refine Rp.below hb1 (Nat.le_refl _) ?_; (repeat (first | with_reducible exact hl | refine Rp.alloc _ ?_ | refine Rp.drew ?_)); rintro e w2 ⟨u2,rfl,hr2,hb2⟩; replace hb1 := hb1.trans (hb2.mono hb1.size)))
       go_wp2;go_ret;exact ⟨_,rfl,hr2,Tr.below_of hb1 (by repeat (first | exact Below.refl _ _ | apply Below.drew | refine Below.alloc ?_ (by simp <;> omega) _))⟩
     | false =>
       obtain rfl : k = nk := qa7 hlt hgt;clear hf hlk hrk
       cases l with
       | nil =>
         obtain ⟨rfl,hE⟩ := hl;rw [show Tr.del ltS (.node k nv .nil r) k = r by rw [Tr.del,if_neg (by rw [hlt]; decide),if_neg (by rw [hlt]; decide)]; rfl]
         go_enter Tryz.func123,Tryz.ntmps123
         go_wp2_with (go_at_call 164; refine (cmp_eq _ _).mono ?_; rintro e w' ⟨rfl,rfl⟩)
         go_ret;exact ⟨_,rfl,hr,Below.refl _ _⟩
       | node lk lv ll lr =>
         have hl2 := hl;obtain ⟨bl,ull,ulr,rfl,_⟩ := hl2
         cases r with
         | nil =>
           obtain ⟨rfl,hE⟩ := hr;rw [show Tr.del ltS (.node k nv (.node lk lv ll lr) .nil) k = .node lk lv ll lr by rw [Tr.del,if_neg (by rw [hlt]; decide),if_neg (by rw [hlt]; decide)]; rfl]
           go_enter Tryz.func123,Tryz.ntmps123
           go_wp2_with (go_at_call 164; refine (cmp_eq _ _).mono ?_; rintro e w' ⟨rfl,rfl⟩)
           go_ret;exact ⟨_,rfl,hl,Below.refl _ _⟩
         | node rk rv rl rr =>
           have hr2 := hr;obtain ⟨br,url,urr,rfl,_⟩ := hr2;rw [show Tr.del ltS (.node k nv (.node lk lv ll lr) (.node rk rv rl rr)) k = Tr.bal (.node lk lv ll lr) (Tr.first (k,nv) (.node rk rv rl rr)).1 (Tr.first (k,nv) (.node rk rv rl rr)).2 (Tr.del ltS (.node rk rv rl rr) (Tr.first (k,nv) (.node rk rv rl rr)).1) by rw [Tr.del,if_neg (by rw [hlt]; decide),if_neg (by rw [hlt]; decide)]; rfl]
           have hp0 : (Tr.node rk rv rl rr).list[0]? = some (Tr.first (k,nv) (.node rk rv rl rr)) := by
            obtain ⟨m,hm⟩ := Tr.first_head (k,nv) (.node rk rv rl rr) rfl;rw [hm]; rfl
           have hff : Tr.find ltS (Tr.first (k,nv) (.node rk rv rl rr)).1 (.node rk rv rl rr) ≠ .nil := by
            obtain ⟨m,hm⟩ := Tr.first_head (k,nv) (.node rk rv rl rr) rfl;exact Tr.find_of_mem linS (v := (Tr.first (k,nv) (.node rk rv rl rr)).2) hBr (by rw [hm]; exact List.mem_cons_self)
           generalize Tr.first (k,nv) (.node rk rv rl rr) = p at hp0 hff ⊢;obtain ⟨pk,pv⟩ := p;have szr := Tr.size_del linS pk hBr;have HP : RowKit.Hid ((Tr.node rk rv rl rr).list[0]? = some (pk,pv)) := hp0;clear hp0
           go_enter Tryz.func123,Tryz.ntmps123
           go_wp2_with (first
            | (go_at_call 164; refine (cmp_eq _ _).mono ?_; rintro e w' ⟨rfl,rfl⟩)
            | (go_at_call 166; refine (qkz (P := P) (.node rk rv rl rr) _ (pk,pv) _ hr (by simp only [Tr.size_node] at hs ⊢; omega) HP.out).mono ?_; rintro e w0 ⟨rfl,hb0⟩))
           have hbw0 : b < w0.heap.size := Nat.lt_of_lt_of_le hbw hb0.size;have c2' : w0.cell? ⟨b,3,none⟩ = some (.pointer (some ⟨bl,0,none⟩)) := (hb0.cell hbw).trans c2;have c3' : w0.cell? ⟨b,4,none⟩ = some (.pointer (some ⟨br,0,none⟩)) := (hb0.cell hbw).trans c3;have hl0 := hl.below hb0 (Nat.le_refl _);have hr0 := hr.below hb0 (Nat.le_refl _)
           go_region_held3 (fun w' => (w'.cell? ⟨b,3,none⟩ = some (.pointer (some ⟨bl,0,none⟩)) /\ w'.cell? ⟨b,4,none⟩ = some (.pointer (some ⟨br,0,none⟩))) ∧
            w'.cell? ⟨w0.heap.size,0,none⟩ = some (Value.string pk) /\ w'.cell? ⟨w0.heap.size,1,none⟩ = some (fvS pv) /\ w'.cell? ⟨w0.heap.size,2,none⟩ = some (fvN pv))
            (first | go_keep | ((repeat' apply And.intro) <;> (refine (hb1.cell (by simp <;> omega)).trans ?_; simp [go_sem, *])))
            (first
              | (go_at_call 123; refine (ihr pk _ _ ?_ hBr hff (by simp only [Tr.size_node] at hs ⊢; omega)).mono ?_; (repeat (first | with_reducible exact hr0 | refine Rp.alloc _ ?_ | refine Rp.drew ?_)); rintro e w1 ⟨u1,rfl,hr1,hb1⟩)
              | (go_at_call 165; refine (qaL (P := P) (.node lk lv ll lr) (Tr.del ltS (.node rk rv rl rr) pk) _ u1 _ _ _ ?_ hr1 (by simp only [Tr.size_node] at hs szr ⊢; omega)).mono ?_; refine Rp.below hb1 (Nat.le_refl _) ?_; (repeat (first | with_reducible exact hl0 | refine Rp.alloc _ ?_ | refine Rp.drew ?_)); rintro e w2 ⟨u2,rfl,hr2,hb2⟩; replace hb1 := hb1.trans (hb2.mono hb1.size)))
           go_wp2;go_ret;exact ⟨_,rfl,hr2,Tr.below_of hb0 (Below.refl _ _) |>.trans ((Tr.below_of hb1 (by repeat (first | exact Below.refl _ _ | apply Below.drew | refine Below.alloc ?_ (by simp <;> omega) _))).mono hb0.size)⟩
end Go.Proofs.YtogbhedbgcmckaaGreat.MapFl
