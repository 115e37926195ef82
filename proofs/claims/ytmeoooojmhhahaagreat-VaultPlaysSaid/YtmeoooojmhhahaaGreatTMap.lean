/- What a map of files has of each: where its bytes lie, and what they are. -/
import Derived.Test.YtmeoooojmhhahaaGreatTCmn
import Derived.Test.YtmeoooojmhhahaaGreatTDskPure
import Derived.Test.YtmeoooojmhhahaaGreatRows
import Derived.Deep.RegionHeld3
import Derived.Lib.Hide
import Derived.Deep.QuietTactic
import Derived.Deep.LoopGhost
set_option linter.unusedVariables false
set_option linter.unusedSimpArgs false
set_option maxRecDepth 100000
set_option maxHeartbeats 3200000
namespace Go.Proofs.YtmeoooojmhhahaaGreat
open Go.RowKit
structure FV where
 A : Option Addr
 cap : Nat
 l : List UInt8
 safe : Nat
abbrev fvS (v : FV) : Value := .slice v.A v.l.length v.cap
abbrev fvN (v : FV) : Value := .int .i64 ((v.safe : Nat) : Int)
abbrev fvV (v : FV) : Value := .agg #[fvS v,fvN v]
end Go.Proofs.YtmeoooojmhhahaaGreat
namespace Go.Proofs.YtmeoooojmhhahaaGreat.MapFl
open Go.RowKit Go.Proofs.YtmeoooojmhhahaaGreat
abbrev T := Tr ByteArray FV
def Rp (P : Nat -> Prop) (w : World) : Option Addr -> T -> Prop
 | u, .nil => u = none /\ ∀ k,w.heap.size <= k -> P k
 | u, .node k v l r => ∃ b ul ur,u = some ⟨b,0,none⟩ /\ P b /\ w.cell? ⟨b,0,none⟩ = some (Value.string k) /\ w.cell? ⟨b,1,none⟩ = some (fvS v) /\ w.cell? ⟨b,2,none⟩ = some (fvN v) ∧
    w.cell? ⟨b,3,none⟩ = some (.pointer ul) /\ w.cell? ⟨b,4,none⟩ = some (.pointer ur) ∧
    w.cell? ⟨b,5,none⟩ = some (.int .i64 ((l.size + 1 + r.size : Nat) : Int)) /\ w.cell? ⟨b,6,none⟩ = some (.int .i64 ((Nat.max l.deep r.deep + 1 : Nat) : Int)) ∧
    Rp P w ul l /\ Rp P w ur r
variable {P P' : Nat → Prop} {w w' : World} {t : T} {u : Option Addr}
theorem Rp.ev : ∀ {t : T} {u : Option Addr},Rp P w u t -> ∀ k,w.heap.size <= k -> P k
 | .nil,_,h => h.2
 | .node k v l r,_,⟨b,ul,ur,hu,hPb,c0,c1,c1b,c2,c3,c4,c5,hl,hr⟩ => Rp.ev hl
theorem Rp.carry (hE : ∀ k,w'.heap.size <= k -> P' k) (h : ∀ b,b < w.heap.size -> P b -> (∃ k,w.cell? ⟨b,0,none⟩ = some (Value.string k)) -> P' b /\ w'.heap[b]? = w.heap[b]?) : ∀ {t : T} {u : Option Addr},Rp P w u t -> Rp P' w' u t
 | .nil,_,hr => ⟨hr.1,hE⟩
 | .node k v l r,_,⟨b,ul,ur,hu,hPb,c0,c1,c1b,c2,c3,c4,c5,hl,hr⟩ => by
   obtain ⟨hP,hx⟩ := h b (World.block_lt_of_cell? w _ c0) hPb ⟨_,c0⟩
   have hc : ∀ o,w'.cell? ⟨b,o,none⟩ = w.cell? ⟨b,o,none⟩ := fun o => World.cell?_of_block hx
   exact ⟨b,ul,ur,hu,hP,(hc _).trans c0,(hc _).trans c1,(hc _).trans c1b,(hc _).trans c2,(hc _).trans c3,(hc _).trans c4,(hc _).trans c5,Rp.carry hE h hl,Rp.carry hE h hr⟩
theorem Rp.below {B : Nat} (hb : Below B w w') (hB : w.heap.size <= B) (h : Rp P w u t) : Rp P w' u t :=
 h.carry (fun k hk => h.ev k (Nat.le_trans hb.size hk)) fun b hlt hP _ => ⟨hP,hb.block b (Nat.lt_of_lt_of_le hlt hB)⟩
theorem Rp.alloc (o : Obj) (h : Rp P w u t) : Rp P (w.alloc o) u t := h.below ((Below.refl w.heap.size w).alloc nlq o) nlq
theorem Rp.drew (h : Rp P w u t) : Rp P w.drew u t := h.below ((Below.refl w.heap.size w).drew) nlq
theorem Rp.made {k : ByteArray} {v : FV} {l r : T} {ul ur : Option Addr} {s d : Int} (hl : Rp P w ul l) (hr : Rp P w ur r) (o : Obj) (ty : TypeId)
 (hs : s = ((l.size + 1 + r.size : Nat) : Int)) (hd : d = ((Nat.max l.deep r.deep + 1 : Nat) : Int)) :
 Rp P ((w.alloc o).alloc (.cells #[Value.string k,fvS v,fvN v, .pointer ul, .pointer ur, .int .i64 s, .int .i64 d] ty)).drew (some ⟨w.heap.size + 1,0,none⟩) (.node k v l r) := by
 subst hs hd
 have e : ∀ i,((w.alloc o).alloc (.cells #[Value.string k,fvS v,fvN v, .pointer ul, .pointer ur, .int .i64 ((l.size + 1 + r.size : Nat) : Int), .int .i64 ((Nat.max l.deep r.deep + 1 : Nat) : Int)] ty)).cell? ⟨w.heap.size + 1,i,none⟩ =
  #[Value.string k,fvS v,fvN v, .pointer ul, .pointer ur, .int .i64 ((l.size + 1 + r.size : Nat) : Int), .int .i64 ((Nat.max l.deep r.deep + 1 : Nat) : Int)][i]? := fun i => by
  simp
 exact ⟨w.heap.size + 1,ul,ur,rfl,hl.ev _ (by omega),e 0,e 1,e 2,e 3,e 4,e 5,e 6,((hl.alloc o).alloc _).drew,((hr.alloc o).alloc _).drew⟩
theorem Rp.setCell {g i : Nat} (hg : w.cell? ⟨g,1,none⟩ = none) (x : Value) : ∀ {t : T} {u : Option Addr},Rp P w u t -> Rp P (w.setCell ⟨g,i,none⟩ x) u t
 | .nil,_,hr => ⟨hr.1,by simpa using hr.2⟩
 | .node k v l r,_,⟨b,ul,ur,hu,hPb,c0,c1,c1b,c2,c3,c4,c5,hl,hr⟩ => by
   have hb : g ≠ b := by rintro rfl; rw [hg] at c1; cases c1
   have h : ∀ o,(w.setCell ⟨g,i,none⟩ x).cell? ⟨b,o,none⟩ = w.cell? ⟨b,o,none⟩ := fun o => World.cell?_setCell_other w ⟨g,i,none⟩ ⟨b,o,none⟩ x (fun e => hb (by injection e))
   exact ⟨b,ul,ur,hu,hPb,(h _).trans c0,(h _).trans c1,(h _).trans c1b,(h _).trans c2,(h _).trans c3,(h _).trans c4,(h _).trans c5,Rp.setCell hg x hl,Rp.setCell hg x hr⟩
end Go.Proofs.YtmeoooojmhhahaaGreat.MapFl
namespace Go.Proofs.YtmeoooojmhhahaaGreat.MapFl
open Go.RowKit Go.Proofs.YtmeoooojmhhahaaGreat
variable {P : Nat → Prop}
theorem count_any (t : T) (u : Option Addr) (w : World) (h : Rp P w u t) : Calls Tryz.prog 155 #[.pointer u] w fun e w' => e = .returned (.int .i64 (t.size : Int)) /\ w = w' := by
 cases t with
 | nil =>
   have h0 := h
   obtain ⟨rfl,hE⟩ := h
   go_enter Tryz.func155,Tryz.ntmps155
   go_wp2
   go_ret
   exact ⟨rfl,rfl⟩
 | node k v l r =>
   obtain ⟨b,ul,ur,rfl,hPb,c0,c1,c1b,c2,c3,c4,c5,hl,hr⟩ := h
   rw [Tr.size_node]
   generalize l.size + 1 + r.size = n at c4 ⊢
   go_enter Tryz.func155,Tryz.ntmps155
   go_wp2
   go_ret
   exact ⟨rfl,rfl⟩
theorem qP (t : T) (u : Option Addr) (w : World) (h : Rp P w u t) : Calls Tryz.prog 183 #[.pointer u] w fun e w' => e = .returned (.int .i64 (t.deep : Int)) /\ w = w' := by
 cases t with
 | nil =>
   have h0 := h
   obtain ⟨rfl,hE⟩ := h
   go_enter Tryz.func183,Tryz.ntmps183
   go_wp2
   go_ret
   exact ⟨rfl,rfl⟩
 | node k v l r =>
   obtain ⟨b,ul,ur,rfl,hPb,c0,c1,c1b,c2,c3,c4,c5,hl,hr⟩ := h
   rw [Tr.deep_node]
   generalize Nat.max l.deep r.deep + 1 = n at c5 ⊢
   go_enter Tryz.func183,Tryz.ntmps183
   go_wp2
   go_ret
   exact ⟨rfl,rfl⟩
theorem qfN (a : ByteArray) (w : World) : Calls Tryz.prog 175 #[Value.string a] w fun e w' => e = .returned (.bool false) /\ w = w' := by
 go_enter Tryz.func175,Tryz.ntmps175
 go_wp2
 go_ret
 exact ⟨by simp,rfl⟩
theorem qg3 (a b : ByteArray) (h : ltS a b = true) (w : World) : Calls Tryz.prog 158 #[Value.string a,Value.string b] w fun e w' => e = .returned (.int .i64 (-1)) /\ w = w' := by
 have h1 : Op.bytesLess a.toList b.toList = true := h
 go_enter Tryz.func158,Tryz.ntmps158
 go_wp2_with (go_at_call 175; refine (qfN _ _).mono ?_; rintro e w' ⟨rfl,rfl⟩)
 go_ret
 exact ⟨rfl,rfl⟩
theorem qg4 (a b : ByteArray) (h : ltS b a = true) (w : World) : Calls Tryz.prog 158 #[Value.string a,Value.string b] w fun e w' => e = .returned (.int .i64 1) /\ w = w' := by
 have h1 : Op.bytesLess a.toList b.toList = false := qaE h
 have h2 : (a.toList == b.toList) = false := qg1 h
 go_enter Tryz.func158,Tryz.ntmps158
 go_wp2_with (go_at_call 175; refine (qfN _ _).mono ?_; rintro e w' ⟨rfl,rfl⟩)
 go_ret
 exact ⟨rfl,rfl⟩
theorem cmp_eq (a : ByteArray) (w : World) : Calls Tryz.prog 158 #[Value.string a,Value.string a] w fun e w' => e = .returned (.int .i64 0) /\ w = w' := by
 have h1 : Op.bytesLess a.toList a.toList = false := qaN a
 go_enter Tryz.func158,Tryz.ntmps158
 go_wp2_with (go_at_call 175; refine (qfN _ _).mono ?_; rintro e w' ⟨rfl,rfl⟩)
 go_ret
 exact ⟨rfl,rfl⟩
theorem qao (l r : T) (ul ur : Option Addr) (k : ByteArray) (v : FV) (w : World) (hl : Rp P w ul l) (hr : Rp P w ur r) (hs : l.size + 1 + r.size <= 4000000) :
 Calls Tryz.prog 172 #[.pointer ul, .agg #[Value.string k,fvS v,fvN v], .pointer ur] w fun e w' => ∃ u,e = .returned (.pointer u) /\ Rp P w' u (.node k v l r) /\ Below w.heap.size w w' := by
 have dl := l.deep_le
 have dr := r.deep_le
 have e1 : IntKind.i64.wrap ((l.size : Int) + 1) = (l.size : Int) + 1 := IntWalk.i64_in _ (by omega)
 have e2 : IntKind.i64.wrap ((l.size : Int) + 1 + (r.size : Int)) = (l.size : Int) + 1 + (r.size : Int) := IntWalk.i64_in _ (by omega)
 have e3 : IntKind.i64.wrap ((l.deep : Int) + 1) = (l.deep : Int) + 1 := IntWalk.i64_in _ (by omega)
 have e4 : IntKind.i64.wrap ((r.deep : Int) + 1) = (r.deep : Int) + 1 := IntWalk.i64_in _ (by omega)
 by_cases hlt : l.deep < r.deep
 all_goals
  go_enter Tryz.func172,Tryz.ntmps172
  go_wp2
  go_region_held3 (fun w' => w'.cell? ⟨w.heap.size,0,none⟩ = some (Value.string k) /\ w'.cell? ⟨w.heap.size,1,none⟩ = some (fvS v) /\ w'.cell? ⟨w.heap.size,2,none⟩ = some (fvN v)) (go_keep)
   (first
     | (go_at_call_of 155 (Value.pointer ul); refine (count_any (P := P) l ul _ ?_).mono ?_; (repeat (first | with_reducible exact hl | refine Rp.alloc _ ?_ | refine Rp.drew ?_)); rintro e w' ⟨rfl,rfl⟩)
     | (go_at_call_of 155 (Value.pointer ur); refine (count_any (P := P) r ur _ ?_).mono ?_; (repeat (first | with_reducible exact hr | refine Rp.alloc _ ?_ | refine Rp.drew ?_)); rintro e w' ⟨rfl,rfl⟩)
     | (go_at_call_of 183 (Value.pointer ul); refine (qP (P := P) l ul _ ?_).mono ?_; (repeat (first | with_reducible exact hl | refine Rp.alloc _ ?_ | refine Rp.drew ?_)); rintro e w' ⟨rfl,rfl⟩)
     | (go_at_call_of 183 (Value.pointer ur); refine (qP (P := P) r ur _ ?_).mono ?_; (repeat (first | with_reducible exact hr | refine Rp.alloc _ ?_ | refine Rp.drew ?_)); rintro e w' ⟨rfl,rfl⟩))
  go_wp2
  go_ret
 · refine ⟨some ⟨w.heap.size + 1,0,none⟩,rfl,Rp.made hl hr _ _ ?_ ?_,((blq.alloc nlq _).alloc (by simp) _).drew⟩
   · push_cast; rfl
   · rw [show Nat.max l.deep r.deep = r.deep from Nat.max_eq_right (Nat.le_of_lt hlt)]; push_cast; rfl
 · refine ⟨some ⟨w.heap.size + 1,0,none⟩,rfl,Rp.made hl hr _ _ ?_ ?_,((blq.alloc nlq _).alloc (by simp) _).drew⟩
   · push_cast; rfl
   · rw [show Nat.max l.deep r.deep = l.deep from Nat.max_eq_left (Nat.not_lt.1 hlt)]; push_cast; rfl
end Go.Proofs.YtmeoooojmhhahaaGreat.MapFl
namespace Go.Proofs.YtmeoooojmhhahaaGreat.MapFl
open Go.RowKit Go.Proofs.YtmeoooojmhhahaaGreat
variable {P : Nat → Prop}
theorem qjV (lk k : ByteArray) (lv v : FV) (ll lr r : T) (ul ur : Option Addr) (w : World) (hl : Rp P w ul (.node lk lv ll lr)) (hr : Rp P w ur r) (hs : (ll.size + 1 + lr.size) + 1 + r.size <= 4000000) (hd : lr.deep <= ll.deep) :
 Calls Tryz.prog 184 #[.pointer ul, .agg #[Value.string k,fvS v,fvN v], .pointer ur] w fun e w' => ∃ u,e = .returned (.pointer u) /\ Rp P w' u (.node lk lv ll (.node k v lr r)) /\ Below w.heap.size w w' := by
 obtain ⟨b,ull,ulr,rfl,hPb,c0,c1,c1b,c2,c3,c4,c5,hll,hlr⟩ := hl
 have hbw : b < w.heap.size := World.block_lt_of_cell? w _ c0
 have hd' : decide (lr.deep <= ll.deep) = true := decide_eq_true hd
 go_enter Tryz.func184,Tryz.ntmps184
 go_wp2
 go_region_held3 (fun w' => w'.cell? ⟨b,3,none⟩ = some (.pointer ull)) (go_keep)
  (first
    | (go_at_call_of 183 (Value.pointer ulr); refine (qP (P := P) lr ulr _ ?_).mono ?_; (repeat (first | with_reducible exact hlr | refine Rp.alloc _ ?_ | refine Rp.drew ?_)); rintro e w' ⟨rfl,rfl⟩)
    | (go_at_call_of 183 (Value.pointer ull); refine (qP (P := P) ll ull _ ?_).mono ?_; (repeat (first | with_reducible exact hll | refine Rp.alloc _ ?_ | refine Rp.drew ?_)); rintro e w' ⟨rfl,rfl⟩))
 go_wp2
 go_region_held3 (fun w' => (w'.cell? ⟨b,0,none⟩ = some (Value.string lk) /\ w'.cell? ⟨b,1,none⟩ = some (fvS lv) /\ w'.cell? ⟨b,2,none⟩ = some (fvN lv) /\ w'.cell? ⟨b,3,none⟩ = some (.pointer ull)) /\ w'.cell? ⟨w.heap.size,0,none⟩ = some (Value.string k) /\ w'.cell? ⟨w.heap.size,1,none⟩ = some (fvS v) /\ w'.cell? ⟨w.heap.size,2,none⟩ = some (fvN v))
  (first | go_keep | ((repeat' apply And.intro) <;> (refine (hb1.cell (by simp <;> omega)).trans ?_; simp [go_sem, *])))
  (first
    | (go_at_call_of 172 (Value.pointer ur); refine (qao (P := P) lr r ulr ur _ _ _ ?_ ?_ (by omega)).mono ?_; (repeat (first | with_reducible exact hlr | refine Rp.alloc _ ?_ | refine Rp.drew ?_)); (repeat (first | with_reducible exact hr | refine Rp.alloc _ ?_ | refine Rp.drew ?_)); rintro e w1 ⟨u1,rfl,hr1,hb1⟩)
    | (go_at_call_of 172 (Value.pointer ull); refine (qao (P := P) ll (.node k v lr r) ull u1 _ _ _ ?_ ?_ (by simp only [Tr.size_node]; omega)).mono ?_; refine Rp.below hb1 nlq ?_; (repeat (first | with_reducible exact hll | refine Rp.alloc _ ?_ | refine Rp.drew ?_)); exact hr1; rintro e w2 ⟨u2,rfl,hr2,hb2⟩; replace hb1 := hb1.trans (hb2.mono hb1.size)))
 go_wp2
 go_ret
 exact ⟨_,rfl,hr2,Tr.below_of hb1 (by repeat (first | exact blq | apply Below.drew | refine Below.alloc ?_ (by simp <;> omega) _))⟩
theorem qjW (lk mk k : ByteArray) (lv mv v : FV) (ll ml mr r : T) (ul ur : Option Addr) (w : World) (hl : Rp P w ul (.node lk lv ll (.node mk mv ml mr))) (hr : Rp P w ur r)
 (hs : (ll.size + 1 + (ml.size + 1 + mr.size)) + 1 + r.size <= 4000000) (hd : ll.deep < Nat.max ml.deep mr.deep + 1) :
 Calls Tryz.prog 184 #[.pointer ul, .agg #[Value.string k,fvS v,fvN v], .pointer ur] w fun e w' => ∃ u,e = .returned (.pointer u) /\ Rp P w' u (.node mk mv (.node lk lv ll ml) (.node k v mr r)) /\ Below w.heap.size w w' := by
 obtain ⟨b,ull,ulr,rfl,hPb,c0,c1,c1b,c2,c3,c4,c5,hll,hlr⟩ := hl
 have hlr' := hlr
 obtain ⟨m,uml,umr,rfl,hPd,d0,d1,d1b,d2,d3,d4,d5,hml,hmr⟩ := hlr'
 have hbw : b < w.heap.size := World.block_lt_of_cell? w _ c0
 have hmw : m < w.heap.size := World.block_lt_of_cell? w _ d0
 have hd' : decide ((Tr.node mk mv ml mr).deep <= ll.deep) = false := decide_eq_false (by rw [Tr.deep_node]; omega)
 go_enter Tryz.func184,Tryz.ntmps184
 go_wp2
 go_region_held3 (fun w' => w'.cell? ⟨b,3,none⟩ = some (.pointer ull)) (go_keep)
  (first
    | (go_at_call_of 183 (Value.pointer ull); refine (qP (P := P) ll ull _ ?_).mono ?_; (repeat (first | with_reducible exact hll | refine Rp.alloc _ ?_ | refine Rp.drew ?_)); rintro e w' ⟨rfl,rfl⟩)
    | (go_at_call 183; refine (qP (P := P) (.node mk mv ml mr) (some ⟨m,0,none⟩) _ ?_).mono ?_; (repeat (first | with_reducible exact hlr | refine Rp.alloc _ ?_ | refine Rp.drew ?_)); rintro e w' ⟨rfl,rfl⟩))
 go_wp2
 go_region_held3 (fun w' => (w'.cell? ⟨b,0,none⟩ = some (Value.string lk) /\ w'.cell? ⟨b,1,none⟩ = some (fvS lv) /\ w'.cell? ⟨b,2,none⟩ = some (fvN lv) /\ w'.cell? ⟨b,3,none⟩ = some (.pointer ull)) ∧
  (w'.cell? ⟨m,0,none⟩ = some (Value.string mk) /\ w'.cell? ⟨m,1,none⟩ = some (fvS mv) /\ w'.cell? ⟨m,2,none⟩ = some (fvN mv) /\ w'.cell? ⟨m,3,none⟩ = some (.pointer uml) /\ w'.cell? ⟨m,4,none⟩ = some (.pointer umr)) ∧
  w'.cell? ⟨w.heap.size,0,none⟩ = some (Value.string k) /\ w'.cell? ⟨w.heap.size,1,none⟩ = some (fvS v) /\ w'.cell? ⟨w.heap.size,2,none⟩ = some (fvN v))
  (first | go_keep | ((repeat' apply And.intro) <;> (refine (hb1.cell (by simp <;> omega)).trans ?_; simp [go_sem, *])))
  (first
    | (go_at_call_of 172 (Value.pointer ull); refine (qao (P := P) ll ml ull uml _ _ _ ?_ ?_ (by omega)).mono ?_; (repeat (first | with_reducible exact hll | refine Rp.alloc _ ?_ | refine Rp.drew ?_)); (repeat (first | with_reducible exact hml | refine Rp.alloc _ ?_ | refine Rp.drew ?_)); rintro e w1 ⟨u1,rfl,hr1,hb1⟩)
    | (go_at_call_of 172 (Value.pointer ur); refine (qao (P := P) mr r umr ur _ _ _ ?_ ?_ (by omega)).mono ?_; (refine Rp.below hb1 nlq ?_; (repeat (first | with_reducible exact hmr | refine Rp.alloc _ ?_ | refine Rp.drew ?_))); (refine Rp.below hb1 nlq ?_; (repeat (first | with_reducible exact hr | refine Rp.alloc _ ?_ | refine Rp.drew ?_))); rintro e w2 ⟨u2,rfl,hr2,hb2⟩; replace hr1 := hr1.below hb2 nlq; replace hb1 := hb1.trans (hb2.mono hb1.size))
    | (go_at_call_of 172 (Value.pointer u1); refine (qao (P := P) (.node lk lv ll ml) (.node k v mr r) u1 u2 _ _ _ hr1 hr2 (by simp only [Tr.size_node]; omega)).mono ?_; rintro e w3 ⟨u3,rfl,hr3,hb3⟩; replace hb1 := hb1.trans (hb3.mono hb1.size)))
 go_wp2
 go_ret
 exact ⟨_,rfl,hr3,Tr.below_of hb1 (by repeat (first | exact blq | apply Below.drew | refine Below.alloc ?_ (by simp <;> omega) _))⟩
theorem qjX (rk k : ByteArray) (rv v : FV) (l rl rr : T) (ul ur : Option Addr) (w : World) (hr : Rp P w ur (.node rk rv rl rr)) (hl : Rp P w ul l) (hs : l.size + 1 + (rl.size + 1 + rr.size) <= 4000000) (hd : rl.deep <= rr.deep) :
 Calls Tryz.prog 185 #[.pointer ul, .agg #[Value.string k,fvS v,fvN v], .pointer ur] w fun e w' => ∃ u,e = .returned (.pointer u) /\ Rp P w' u (.node rk rv (.node k v l rl) rr) /\ Below w.heap.size w w' := by
 obtain ⟨b,url,urr,rfl,hPb,c0,c1,c1b,c2,c3,c4,c5,hrl,hrr⟩ := hr
 have hbw : b < w.heap.size := World.block_lt_of_cell? w _ c0
 have hd' : decide (rl.deep <= rr.deep) = true := decide_eq_true hd
 go_enter Tryz.func185,Tryz.ntmps185
 go_wp2
 go_region_held3 (fun w' => w'.cell? ⟨b,4,none⟩ = some (.pointer urr)) (go_keep)
  (first
    | (go_at_call_of 183 (Value.pointer url); refine (qP (P := P) rl url _ ?_).mono ?_; (repeat (first | with_reducible exact hrl | refine Rp.alloc _ ?_ | refine Rp.drew ?_)); rintro e w' ⟨rfl,rfl⟩)
    | (go_at_call_of 183 (Value.pointer urr); refine (qP (P := P) rr urr _ ?_).mono ?_; (repeat (first | with_reducible exact hrr | refine Rp.alloc _ ?_ | refine Rp.drew ?_)); rintro e w' ⟨rfl,rfl⟩))
 go_wp2
 go_region_held3 (fun w' => (w'.cell? ⟨b,0,none⟩ = some (Value.string rk) /\ w'.cell? ⟨b,1,none⟩ = some (fvS rv) /\ w'.cell? ⟨b,2,none⟩ = some (fvN rv) /\ w'.cell? ⟨b,4,none⟩ = some (.pointer urr)) /\ w'.cell? ⟨w.heap.size,0,none⟩ = some (Value.string k) /\ w'.cell? ⟨w.heap.size,1,none⟩ = some (fvS v) /\ w'.cell? ⟨w.heap.size,2,none⟩ = some (fvN v))
  (first | go_keep | ((repeat' apply And.intro) <;> (refine (hb1.cell (by simp <;> omega)).trans ?_; simp [go_sem, *])))
  (first
    | (go_at_call_of 172 (Value.pointer ul); refine (qao (P := P) l rl ul url _ _ _ ?_ ?_ (by omega)).mono ?_; (repeat (first | with_reducible exact hl | refine Rp.alloc _ ?_ | refine Rp.drew ?_)); (repeat (first | with_reducible exact hrl | refine Rp.alloc _ ?_ | refine Rp.drew ?_)); rintro e w1 ⟨u1,rfl,hr1,hb1⟩)
    | (go_at_call_of 172 (Value.pointer urr); refine (qao (P := P) (.node k v l rl) rr u1 urr _ _ _ hr1 ?_ (by simp only [Tr.size_node]; omega)).mono ?_; refine Rp.below hb1 nlq ?_; (repeat (first | with_reducible exact hrr | refine Rp.alloc _ ?_ | refine Rp.drew ?_)); rintro e w2 ⟨u2,rfl,hr2,hb2⟩; replace hb1 := hb1.trans (hb2.mono hb1.size)))
 go_wp2
 go_ret
 exact ⟨_,rfl,hr2,Tr.below_of hb1 (by repeat (first | exact blq | apply Below.drew | refine Below.alloc ?_ (by simp <;> omega) _))⟩
theorem qjY (rk mk k : ByteArray) (rv mv v : FV) (l ml mr rr : T) (ul ur : Option Addr) (w : World) (hr : Rp P w ur (.node rk rv (.node mk mv ml mr) rr)) (hl : Rp P w ul l)
 (hs : l.size + 1 + ((ml.size + 1 + mr.size) + 1 + rr.size) <= 4000000) (hd : rr.deep < Nat.max ml.deep mr.deep + 1) :
 Calls Tryz.prog 185 #[.pointer ul, .agg #[Value.string k,fvS v,fvN v], .pointer ur] w fun e w' => ∃ u,e = .returned (.pointer u) /\ Rp P w' u (.node mk mv (.node k v l ml) (.node rk rv mr rr)) /\ Below w.heap.size w w' := by
 obtain ⟨b,url,urr,rfl,hPb,c0,c1,c1b,c2,c3,c4,c5,hrl,hrr⟩ := hr
 have hrl' := hrl
 obtain ⟨m,uml,umr,rfl,hPd,d0,d1,d1b,d2,d3,d4,d5,hml,hmr⟩ := hrl'
 have hbw : b < w.heap.size := World.block_lt_of_cell? w _ c0
 have hmw : m < w.heap.size := World.block_lt_of_cell? w _ d0
 have hd' : decide ((Tr.node mk mv ml mr).deep <= rr.deep) = false := decide_eq_false (by rw [Tr.deep_node]; omega)
 go_enter Tryz.func185,Tryz.ntmps185
 go_wp2
 go_region_held3 (fun w' => w'.cell? ⟨b,4,none⟩ = some (.pointer urr)) (go_keep)
  (first
    | (go_at_call_of 183 (Value.pointer urr); refine (qP (P := P) rr urr _ ?_).mono ?_; (repeat (first | with_reducible exact hrr | refine Rp.alloc _ ?_ | refine Rp.drew ?_)); rintro e w' ⟨rfl,rfl⟩)
    | (go_at_call 183; refine (qP (P := P) (.node mk mv ml mr) (some ⟨m,0,none⟩) _ ?_).mono ?_; (repeat (first | with_reducible exact hrl | refine Rp.alloc _ ?_ | refine Rp.drew ?_)); rintro e w' ⟨rfl,rfl⟩))
 go_wp2
 go_region_held3 (fun w' => (w'.cell? ⟨b,0,none⟩ = some (Value.string rk) /\ w'.cell? ⟨b,1,none⟩ = some (fvS rv) /\ w'.cell? ⟨b,2,none⟩ = some (fvN rv) /\ w'.cell? ⟨b,4,none⟩ = some (.pointer urr)) ∧
  (w'.cell? ⟨m,0,none⟩ = some (Value.string mk) /\ w'.cell? ⟨m,1,none⟩ = some (fvS mv) /\ w'.cell? ⟨m,2,none⟩ = some (fvN mv) /\ w'.cell? ⟨m,3,none⟩ = some (.pointer uml) /\ w'.cell? ⟨m,4,none⟩ = some (.pointer umr)) ∧
  w'.cell? ⟨w.heap.size,0,none⟩ = some (Value.string k) /\ w'.cell? ⟨w.heap.size,1,none⟩ = some (fvS v) /\ w'.cell? ⟨w.heap.size,2,none⟩ = some (fvN v))
  (first | go_keep | ((repeat' apply And.intro) <;> (refine (hb1.cell (by simp <;> omega)).trans ?_; simp [go_sem, *])))
  (first
    | (go_at_call_of 172 (Value.pointer ul); refine (qao (P := P) l ml ul uml _ _ _ ?_ ?_ (by omega)).mono ?_; (repeat (first | with_reducible exact hl | refine Rp.alloc _ ?_ | refine Rp.drew ?_)); (repeat (first | with_reducible exact hml | refine Rp.alloc _ ?_ | refine Rp.drew ?_)); rintro e w1 ⟨u1,rfl,hr1,hb1⟩)
    | (go_at_call_of 172 (Value.pointer urr); refine (qao (P := P) mr rr umr urr _ _ _ ?_ ?_ (by omega)).mono ?_; (refine Rp.below hb1 nlq ?_; (repeat (first | with_reducible exact hmr | refine Rp.alloc _ ?_ | refine Rp.drew ?_))); (refine Rp.below hb1 nlq ?_; (repeat (first | with_reducible exact hrr | refine Rp.alloc _ ?_ | refine Rp.drew ?_))); rintro e w2 ⟨u2,rfl,hr2,hb2⟩; replace hr1 := hr1.below hb2 nlq; replace hb1 := hb1.trans (hb2.mono hb1.size))
    | (go_at_call_of 172 (Value.pointer u1); refine (qao (P := P) (.node k v l ml) (.node rk rv mr rr) u1 u2 _ _ _ hr1 hr2 (by simp only [Tr.size_node]; omega)).mono ?_; rintro e w3 ⟨u3,rfl,hr3,hb3⟩; replace hb1 := hb1.trans (hb3.mono hb1.size)))
 go_wp2
 go_ret
 exact ⟨_,rfl,hr3,Tr.below_of hb1 (by repeat (first | exact blq | apply Below.drew | refine Below.alloc ?_ (by simp <;> omega) _))⟩
theorem qjZ (l r : T) (ul ur : Option Addr) (k : ByteArray) (v : FV) (w : World) (hl : Rp P w ul l) (hr : Rp P w ur r) (hs : l.size + 1 + r.size <= 4000000) (hd : 1 <= l.deep) :
 Calls Tryz.prog 184 #[.pointer ul, .agg #[Value.string k,fvS v,fvN v], .pointer ur] w fun e w' => ∃ u,e = .returned (.pointer u) /\ Rp P w' u (Tr.leanR l k v r) /\ Below w.heap.size w w' := by
 unfold Tr.leanR
 split
 · rw [Tr.deep_nil] at hd; omega
 · rename_i lk lv ll lr
   split
   · rename_i h; exact qjV lk k lv v ll lr r ul ur w hl hr (by simpa only [Tr.size_node] using hs) h
   · rename_i h
     split
     · rw [Tr.deep_nil] at h; omega
     · rename_i mk mv ml mr; rw [Tr.deep_node] at h; exact qjW lk mk k lv mv v ll ml mr r ul ur w hl hr (by simpa only [Tr.size_node] using hs) (by omega)
theorem qj0 (l r : T) (ul ur : Option Addr) (k : ByteArray) (v : FV) (w : World) (hl : Rp P w ul l) (hr : Rp P w ur r) (hs : l.size + 1 + r.size <= 4000000) (hd : 1 <= r.deep) :
 Calls Tryz.prog 185 #[.pointer ul, .agg #[Value.string k,fvS v,fvN v], .pointer ur] w fun e w' => ∃ u,e = .returned (.pointer u) /\ Rp P w' u (Tr.leanL l k v r) /\ Below w.heap.size w w' := by
 unfold Tr.leanL
 split
 · rw [Tr.deep_nil] at hd; omega
 · rename_i rk rv rl rr
   split
   · rename_i h; exact qjX rk k rv v l rl rr ul ur w hr hl (by simpa only [Tr.size_node] using hs) h
   · rename_i h
     split
     · rw [Tr.deep_nil] at h; omega
     · rename_i mk mv ml mr; rw [Tr.deep_node] at h; exact qjY rk mk k rv mv v l ml mr rr ul ur w hr hl (by simpa only [Tr.size_node] using hs) (by omega)
end Go.Proofs.YtmeoooojmhhahaaGreat.MapFl
namespace Go.Proofs.YtmeoooojmhhahaaGreat.MapFl
open Go.RowKit Go.Proofs.YtmeoooojmhhahaaGreat
variable {P : Nat → Prop}
theorem qbn (l r : T) (ul ur : Option Addr) (k : ByteArray) (v : FV) (w : World) (hl : Rp P w ul l) (hr : Rp P w ur r) (hs : l.size + 1 + r.size <= 4000000) :
 Calls Tryz.prog 173 #[.pointer ul, .agg #[Value.string k,fvS v,fvN v], .pointer ur] w fun e w' => ∃ u,e = .returned (.pointer u) /\ Rp P w' u (Tr.bal l k v r) /\ Below w.heap.size w w' := by
 have dl := l.deep_le
 have dr := r.deep_le
 have e1 : IntKind.i64.wrap ((l.deep : Int) + 1) = (l.deep : Int) + 1 := IntWalk.i64_in _ (by omega)
 have e2 : IntKind.i64.wrap ((r.deep : Int) + 1) = (r.deep : Int) + 1 := IntWalk.i64_in _ (by omega)
 by_cases h1 : r.deep + 1 < l.deep
 · have h1' : (r.deep : Int) + 1 < (l.deep : Int) := by omega
   rw [show Tr.bal l k v r = Tr.leanR l k v r from if_pos h1]
   go_enter Tryz.func173,Tryz.ntmps173
   go_wp2_with (first
    | (go_at_call_of 183 (Value.pointer ul); refine (qP (P := P) l ul _ ?_).mono ?_; (repeat (first | with_reducible exact hl | refine Rp.alloc _ ?_ | refine Rp.drew ?_)); rintro e w' ⟨rfl,rfl⟩)
    | (go_at_call_of 183 (Value.pointer ur); refine (qP (P := P) r ur _ ?_).mono ?_; (repeat (first | with_reducible exact hr | refine Rp.alloc _ ?_ | refine Rp.drew ?_)); rintro e w' ⟨rfl,rfl⟩)
    | (go_at_call 184; refine (qjZ (P := P) l r ul ur _ _ _ ?_ ?_ hs (by omega)).mono ?_; (repeat (first | with_reducible exact hl | refine Rp.alloc _ ?_ | refine Rp.drew ?_)); (repeat (first | with_reducible exact hr | refine Rp.alloc _ ?_ | refine Rp.drew ?_)); rintro e w1 ⟨u1,rfl,hr1,hb1⟩))
   go_ret
   exact ⟨_,rfl,hr1,Tr.below_of hb1 (by repeat (first | exact blq | apply Below.drew | refine Below.alloc ?_ (by simp <;> omega) _))⟩
 · by_cases h2 : l.deep + 1 < r.deep
   · have h1' : (l.deep : Int) <= (r.deep : Int) + 1 := by omega
     have h2' : (l.deep : Int) + 1 < (r.deep : Int) := by omega
     rw [show Tr.bal l k v r = Tr.leanL l k v r from (if_neg h1).trans (if_pos h2)]
     go_enter Tryz.func173,Tryz.ntmps173
     go_wp2_with (first
      | (go_at_call_of 183 (Value.pointer ul); refine (qP (P := P) l ul _ ?_).mono ?_; (repeat (first | with_reducible exact hl | refine Rp.alloc _ ?_ | refine Rp.drew ?_)); rintro e w' ⟨rfl,rfl⟩)
      | (go_at_call_of 183 (Value.pointer ur); refine (qP (P := P) r ur _ ?_).mono ?_; (repeat (first | with_reducible exact hr | refine Rp.alloc _ ?_ | refine Rp.drew ?_)); rintro e w' ⟨rfl,rfl⟩)
      | (go_at_call 185; refine (qj0 (P := P) l r ul ur _ _ _ ?_ ?_ hs (by omega)).mono ?_; (repeat (first | with_reducible exact hl | refine Rp.alloc _ ?_ | refine Rp.drew ?_)); (repeat (first | with_reducible exact hr | refine Rp.alloc _ ?_ | refine Rp.drew ?_)); rintro e w1 ⟨u1,rfl,hr1,hb1⟩))
     go_ret
     exact ⟨_,rfl,hr1,Tr.below_of hb1 (by repeat (first | exact blq | apply Below.drew | refine Below.alloc ?_ (by simp <;> omega) _))⟩
   · have h1' : (l.deep : Int) <= (r.deep : Int) + 1 := by omega
     have h2' : (r.deep : Int) <= (l.deep : Int) + 1 := by omega
     rw [show Tr.bal l k v r = Tr.node k v l r from (if_neg h1).trans (if_neg h2)]
     go_enter Tryz.func173,Tryz.ntmps173
     go_wp2_with (first
      | (go_at_call_of 183 (Value.pointer ul); refine (qP (P := P) l ul _ ?_).mono ?_; (repeat (first | with_reducible exact hl | refine Rp.alloc _ ?_ | refine Rp.drew ?_)); rintro e w' ⟨rfl,rfl⟩)
      | (go_at_call_of 183 (Value.pointer ur); refine (qP (P := P) r ur _ ?_).mono ?_; (repeat (first | with_reducible exact hr | refine Rp.alloc _ ?_ | refine Rp.drew ?_)); rintro e w' ⟨rfl,rfl⟩)
      | (go_at_call 172; refine (qao (P := P) l r ul ur _ _ _ ?_ ?_ hs).mono ?_; (repeat (first | with_reducible exact hl | refine Rp.alloc _ ?_ | refine Rp.drew ?_)); (repeat (first | with_reducible exact hr | refine Rp.alloc _ ?_ | refine Rp.drew ?_)); rintro e w1 ⟨u1,rfl,hr1,hb1⟩))
     go_ret
     exact ⟨_,rfl,hr1,Tr.below_of hb1 (by repeat (first | exact blq | apply Below.drew | refine Below.alloc ?_ (by simp <;> omega) _))⟩
theorem qlK (k : ByteArray) (v : FV) (t : T) : ∀ (u : Option Addr) (w : World),Rp P w u t -> t.size + 1 <= 4000000 →
 Calls Tryz.prog 154 #[.pointer u, .agg #[Value.string k,fvS v,fvN v]] w fun e w' => ∃ u',e = .returned (.pointer u') /\ Rp P w' u' (Tr.put ltS k v t) /\ Below w.heap.size w w' := by
 induction t with
 | nil =>
   intro u w h hs
   have h0 := h
   obtain ⟨rfl,hE⟩ := h
   go_enter Tryz.func154,Tryz.ntmps154
   go_wp2_with (go_at_call 172; refine (qao (P := P) .nil .nil none none _ _ _ ?_ ?_ (by simp only [Tr.size_nil]; omega)).mono ?_; (repeat (first | with_reducible exact h0 | refine Rp.alloc _ ?_ | refine Rp.drew ?_)); (repeat (first | with_reducible exact h0 | refine Rp.alloc _ ?_ | refine Rp.drew ?_)); rintro e w1 ⟨u1,rfl,hr1,hb1⟩)
   go_ret
   exact ⟨_,rfl,hr1,Tr.below_of hb1 (by repeat (first | exact blq | apply Below.drew | refine Below.alloc ?_ (by simp <;> omega) _))⟩
 | node nk nv l r ihl ihr =>
   intro u w h hs
   rw [Tr.size_node] at hs
   obtain ⟨b,ul,ur,rfl,hPb,c0,c1,c1b,c2,c3,c4,c5,hl,hr⟩ := h
   have hbw : b < w.heap.size := World.block_lt_of_cell? w _ c0
   have szl := Tr.size_put ltS k v l
   have szr := Tr.size_put ltS k v r
   cases hlt : ltS k nk with
   | true =>
     rw [show Tr.put ltS k v (.node nk nv l r) = Tr.bal (Tr.put ltS k v l) nk nv r by rw [Tr.put,if_pos hlt]]
     go_enter Tryz.func154,Tryz.ntmps154
     go_wp2
     go_region_held3 (fun w' => w'.cell? ⟨b,0,none⟩ = some (Value.string nk) /\ w'.cell? ⟨w.heap.size,0,none⟩ = some (Value.string k)) (go_keep)
      (first
        | (go_at_call 158; refine (qg3 _ _ hlt _).mono ?_; rintro e w' ⟨rfl,rfl⟩))
     go_wp2
     go_region_held3 (fun w' => (w'.cell? ⟨b,0,none⟩ = some (Value.string nk) /\ w'.cell? ⟨b,1,none⟩ = some (fvS nv) /\ w'.cell? ⟨b,2,none⟩ = some (fvN nv) /\ w'.cell? ⟨b,3,none⟩ = some (.pointer ul) /\ w'.cell? ⟨b,4,none⟩ = some (.pointer ur)) ∧
      w'.cell? ⟨w.heap.size,0,none⟩ = some (Value.string k) /\ w'.cell? ⟨w.heap.size,1,none⟩ = some (fvS v) /\ w'.cell? ⟨w.heap.size,2,none⟩ = some (fvN v))
      (first | go_keep | ((repeat' apply And.intro) <;> (refine (hb1.cell (by simp <;> omega)).trans ?_; simp [go_sem, *])))
      (first
        | (go_at_call 154; refine (ihl ul _ ?_ (by omega)).mono ?_; (repeat (first | with_reducible exact hl | refine Rp.alloc _ ?_ | refine Rp.drew ?_)); rintro e w1 ⟨u1,rfl,hr1,hb1⟩)
        | (go_at_call 173; refine (qbn (P := P) (Tr.put ltS k v l) r u1 ur _ _ _ hr1 ?_ (by omega)).mono ?_; refine Rp.below hb1 nlq ?_; (repeat (first | with_reducible exact hr | refine Rp.alloc _ ?_ | refine Rp.drew ?_)); rintro e w2 ⟨u2,rfl,hr2,hb2⟩; replace hb1 := hb1.trans (hb2.mono hb1.size)))
     go_wp2
     go_ret
     exact ⟨_,rfl,hr2,Tr.below_of hb1 (by repeat (first | exact blq | apply Below.drew | refine Below.alloc ?_ (by simp <;> omega) _))⟩
   | false =>
     cases hgt : ltS nk k with
     | true =>
       rw [show Tr.put ltS k v (.node nk nv l r) = Tr.bal l nk nv (Tr.put ltS k v r) by rw [Tr.put,if_neg (by rw [hlt]; decide),if_pos hgt]]
       go_enter Tryz.func154,Tryz.ntmps154
       go_wp2
       go_region_held3 (fun w' => w'.cell? ⟨b,0,none⟩ = some (Value.string nk) /\ w'.cell? ⟨w.heap.size,0,none⟩ = some (Value.string k)) (go_keep)
        (first
          | (go_at_call 158; refine (qg4 _ _ hgt _).mono ?_; rintro e w' ⟨rfl,rfl⟩))
       go_wp2
       go_region_held3 (fun w' => (w'.cell? ⟨b,0,none⟩ = some (Value.string nk) /\ w'.cell? ⟨b,1,none⟩ = some (fvS nv) /\ w'.cell? ⟨b,2,none⟩ = some (fvN nv) /\ w'.cell? ⟨b,3,none⟩ = some (.pointer ul) /\ w'.cell? ⟨b,4,none⟩ = some (.pointer ur)) ∧
        w'.cell? ⟨w.heap.size,0,none⟩ = some (Value.string k) /\ w'.cell? ⟨w.heap.size,1,none⟩ = some (fvS v) /\ w'.cell? ⟨w.heap.size,2,none⟩ = some (fvN v))
        (first | go_keep | ((repeat' apply And.intro) <;> (refine (hb1.cell (by simp <;> omega)).trans ?_; simp [go_sem, *])))
        (first
          | (go_at_call 154; refine (ihr ur _ ?_ (by omega)).mono ?_; (repeat (first | with_reducible exact hr | refine Rp.alloc _ ?_ | refine Rp.drew ?_)); rintro e w1 ⟨u1,rfl,hr1,hb1⟩)
          | (go_at_call 173; refine (qbn (P := P) l (Tr.put ltS k v r) ul u1 _ _ _ ?_ hr1 (by omega)).mono ?_; refine Rp.below hb1 nlq ?_; (repeat (first | with_reducible exact hl | refine Rp.alloc _ ?_ | refine Rp.drew ?_)); rintro e w2 ⟨u2,rfl,hr2,hb2⟩; replace hb1 := hb1.trans (hb2.mono hb1.size)))
       go_wp2
       go_ret
       exact ⟨_,rfl,hr2,Tr.below_of hb1 (by repeat (first | exact blq | apply Below.drew | refine Below.alloc ?_ (by simp <;> omega) _))⟩
     | false =>
       obtain rfl : k = nk := qbz hlt hgt
       rw [show Tr.put ltS k v (.node k nv l r) = Tr.node k v l r by rw [Tr.put,if_neg (by rw [hlt]; decide),if_neg (by rw [hlt]; decide)]]
       go_enter Tryz.func154,Tryz.ntmps154
       go_wp2
       go_region_held3 (fun w' => w'.cell? ⟨b,0,none⟩ = some (Value.string k) /\ w'.cell? ⟨w.heap.size,0,none⟩ = some (Value.string k)) (go_keep)
        (first
          | (go_at_call 158; refine (cmp_eq _ _).mono ?_; rintro e w' ⟨rfl,rfl⟩))
       go_wp2
       go_region_held3 (fun w' => (w'.cell? ⟨b,3,none⟩ = some (.pointer ul) /\ w'.cell? ⟨b,4,none⟩ = some (.pointer ur)) ∧
        w'.cell? ⟨w.heap.size,0,none⟩ = some (Value.string k) /\ w'.cell? ⟨w.heap.size,1,none⟩ = some (fvS v) /\ w'.cell? ⟨w.heap.size,2,none⟩ = some (fvN v))
        (first | go_keep | ((repeat' apply And.intro) <;> (refine (hb1.cell (by simp <;> omega)).trans ?_; simp [go_sem, *])))
        (first
          | (go_at_call 172; refine (qao (P := P) l r ul ur _ _ _ ?_ ?_ (by omega)).mono ?_; (repeat (first | with_reducible exact hl | refine Rp.alloc _ ?_ | refine Rp.drew ?_)); (repeat (first | with_reducible exact hr | refine Rp.alloc _ ?_ | refine Rp.drew ?_)); rintro e w1 ⟨u1,rfl,hr1,hb1⟩))
       go_wp2
       go_ret
       exact ⟨_,rfl,hr1,Tr.below_of hb1 (by repeat (first | exact blq | apply Below.drew | refine Below.alloc ?_ (by simp <;> omega) _))⟩
end Go.Proofs.YtmeoooojmhhahaaGreat.MapFl
namespace Go.Proofs.YtmeoooojmhhahaaGreat.MapFl
open Go.RowKit Go.Proofs.YtmeoooojmhhahaaGreat
variable {P : Nat → Prop}
theorem qg5 (k : ByteArray) (t : T) (u : Option Addr) (w : World) (h : Rp P w u t) :
 Calls Tryz.prog 131 #[.pointer u,Value.string k] w fun e w' => ∃ u',e = .returned (.pointer u') /\ Rp P w u' (Tr.find ltS k t) /\ w = w' := by
 generalize hF : Tr.find ltS k t = F
 go_enter Tryz.func131,Tryz.ntmps131
 go_wp2
 go_loopg [0] t.size (fun g p wr => w = wr /\ ∃ u' t',p = .pointer u' /\ Rp P w u' t' /\ t'.size <= g /\ RowKit.Hid (Tr.find ltS k t' = F))
 case atStart => exact ⟨rfl,u,t,rfl,h,nlq,hF⟩
 case round =>
  obtain ⟨rfl,u',t',rfl,h',hg,hF'⟩ := hrel
  cases t' with
  | nil =>
    obtain ⟨rfl,hE⟩ := h'
    have hF2 : Tr.nil = F := hF'.out
    have HR : Rp P w none F := by rw [<- hF2]; exact ⟨rfl,hE⟩
    clear hF2
    go_wp2
    go_ret
    exact ⟨_,rfl,HR,rfl⟩
  | node nk nv l r =>
    have h2 := h'
    obtain ⟨b,ul,ur,rfl,hPb,c0,c1,c1b,c2,c3,c4,c5,hl,hr⟩ := h2
    rw [Tr.size_node] at hg
    have HF : RowKit.Hid ((if ltS k nk then Tr.find ltS k l else if ltS nk k then Tr.find ltS k r else .node nk nv l r) = F) := hF'
    clear hF'
    cases hlt : ltS k nk with
    | true =>
      have HL : RowKit.Hid (Tr.find ltS k l = F) := by have := HF.out; rw [if_pos hlt] at this; exact this
      go_wp2_with (go_at_call 158; refine (qg3 _ _ hlt _).mono ?_; rintro e w' ⟨rfl,rfl⟩)
      go_roundg l.size
      case measure => omega
      case rel => exact ⟨rfl,ul,l,rfl,hl,nlq,HL⟩
    | false =>
      cases hgt : ltS nk k with
      | true =>
        have HL : RowKit.Hid (Tr.find ltS k r = F) := by have := HF.out; rw [if_neg (by rw [hlt]; decide),if_pos hgt] at this; exact this
        go_wp2_with (go_at_call 158; refine (qg4 _ _ hgt _).mono ?_; rintro e w' ⟨rfl,rfl⟩)
        go_roundg r.size
        case measure => omega
        case rel => exact ⟨rfl,ur,r,rfl,hr,nlq,HL⟩
      | false =>
        obtain rfl : k = nk := qbz hlt hgt
        have HR : Rp P w (some ⟨b,0,none⟩) F := by have := HF.out; rw [if_neg (by rw [hlt]; decide),if_neg (by rw [hlt]; decide)] at this; rw [<- this]; exact h'
        go_wp2_with (go_at_call 158; refine (cmp_eq _ _).mono ?_; rintro e w' ⟨rfl,rfl⟩)
        go_ret
        exact ⟨_,rfl,HR,rfl⟩
theorem ql8 (t : T) (u : Option Addr) (i : Nat) (p : ByteArray × FV) (w : World) (h : Rp P w u t) (hs : t.size <= 4000000) (hp : t.list[i]? = some p) :
 Calls Tryz.prog 174 #[.pointer u, .int .i64 i] w fun e w' => e = .returned (.agg #[Value.string p.1,fvS p.2,fvN p.2]) /\ Below w.heap.size w w' := by
 go_enter Tryz.func174,Tryz.ntmps174
 go_wp2
 go_loopg [0,1] t.size (fun g n x wr => wr = w.alloc (.cells #[(Value.string ⟨#[]⟩),(Value.slice none 0 0),(Value.int .i64 0)] 149) /\ ∃ u' t' j,n = .pointer u' /\ x = .int .i64 ((j : Nat) : Int) /\ Rp P w u' t' /\ t'.size <= g /\ g <= t.size /\ RowKit.Hid (t'.list[j]? = some p))
 case atStart => exact ⟨rfl,u,t,i,rfl,rfl,h,nlq,nlq,hp⟩
 case round =>
  obtain ⟨rfl,u',t',j,rfl,rfl,h',hg,hg2,hp'⟩ := hrel
  clear hp
  cases t' with
  | nil => exact absurd hp'.out (by simp [Tr.list])
  | node nk nv l r =>
    obtain ⟨b,ul,ur,rfl,hPb,c0,c1,c1b,c2,c3,c4,c5,hl,hr⟩ := h'
    rw [Tr.size_node] at hg
    have HP : RowKit.Hid ((l.list ++ (nk,nv) :: r.list)[j]? = some p) := hp'
    clear hp'
    have hbw : b < w.heap.size := World.block_lt_of_cell? w _ c0
    rcases Nat.lt_trichotomy j l.size with hj | hj | hj
    · have HL : RowKit.Hid (l.list[j]? = some p) := Tr.at_left HP.out (by rw [Tr.length_list]; exact hj)
      have hj' : (j : Int) < (l.size : Int) := by omega
      go_wp2_with (go_at_call 155; refine (count_any (P := P) l ul _ ?_).mono ?_; (repeat (first | with_reducible exact hl | refine Rp.alloc _ ?_ | refine Rp.drew ?_)); rintro e w' ⟨rfl,rfl⟩)
      go_roundg l.size
      case measure => omega
      case rel => exact ⟨rfl,ul,l,j,rfl,rfl,hl,nlq,by omega,HL⟩
    · have HE : RowKit.Hid ((nk,nv) = p) := Tr.at_here HP.out (by rw [Tr.length_list]; exact hj)
      have hj1 : (j : Int) <= (l.size : Int) := by omega
      have hj2 : (l.size : Int) <= (j : Int) := by omega
      go_wp2_with (go_at_call 155; refine (count_any (P := P) l ul _ ?_).mono ?_; (repeat (first | with_reducible exact hl | refine Rp.alloc _ ?_ | refine Rp.drew ?_)); rintro e w' ⟨rfl,rfl⟩)
      exact bodyPost_ret (v := .agg #[Value.string nk,fvS nv,fvN nv]) (by simp [results,Tryz.results174,go_sem]) rfl ⟨by rw [<- HE.out],blq.alloc nlq _⟩
    · have HL : RowKit.Hid (r.list[j - l.size - 1]? = some p) := by have := Tr.at_right HP.out (by rw [Tr.length_list]; exact hj); rw [Tr.length_list] at this; exact this
      have hj1 : (l.size : Int) < (j : Int) := by omega
      have hx : j <= l.size + 1 + r.size := by
       have h0 := HP.out
       have : j < (l.list ++ (nk,nv) :: r.list).length := by
        rcases Nat.lt_or_ge j (l.list ++ (nk,nv) :: r.list).length with h1 | h1
        · exact h1
        · rw [List.getElem?_eq_none h1] at h0; cases h0
       rw [List.length_append,List.length_cons,Tr.length_list,Tr.length_list] at this
       omega
      have hx' : (j : Int) <= 4000000 := by omega
      clear hx
      go_wp2_with (go_at_call 155; refine (count_any (P := P) l ul _ ?_).mono ?_; (repeat (first | with_reducible exact hl | refine Rp.alloc _ ?_ | refine Rp.drew ?_)); rintro e w' ⟨rfl,rfl⟩)
      go_roundg r.size
      case measure => omega
      case rel => exact ⟨rfl,ur,r,j - l.size - 1,rfl,by rw [show ((j - l.size - 1 : Nat) : Int) = (j : Int) - l.size - 1 by omega],hr,nlq,by omega,HL⟩
theorem qlL (t : T) (u : Option Addr) (p : ByteArray × FV) (w : World) (h : Rp P w u t) (hs : t.size <= 4000000) (hp : t.list[0]? = some p) :
 Calls Tryz.prog 174 #[.pointer u, .int .i64 0] w fun e w' => e = .returned (.agg #[Value.string p.1,fvS p.2,fvN p.2]) /\ Below w.heap.size w w' :=
 ql8 t u 0 p w h hs hp
theorem qlM (t : T) : ∀ (k : ByteArray) (u : Option Addr) (w : World),Rp P w u t -> Tr.Bst ltS t -> Tr.find ltS k t ≠ .nil -> t.size <= 4000000 →
 Calls Tryz.prog 157 #[.pointer u,Value.string k] w fun e w' => ∃ u',e = .returned (.pointer u') /\ Rp P w' u' (Tr.del ltS t k) /\ Below w.heap.size w w' := by
 induction t with
 | nil => intro k u w _ _ hf; exact absurd rfl hf
 | node nk nv l r ihl ihr =>
   intro k u w h hB hf hs
   rw [Tr.size_node] at hs
   obtain ⟨b,ul,ur,rfl,hPb,c0,c1,c1b,c2,c3,c4,c5,hl,hr⟩ := h
   have hbw : b < w.heap.size := World.block_lt_of_cell? w _ c0
   obtain ⟨hBl,hBr,hlk,hrk⟩ := hB.node
   clear hB
   cases hlt : ltS k nk with
   | true =>
     have szl := Tr.size_del linS k hBl
     have hfl : Tr.find ltS k l ≠ .nil := by rwa [Tr.find,if_pos hlt] at hf
     clear hf hlk hrk
     rw [show Tr.del ltS (.node nk nv l r) k = Tr.bal (Tr.del ltS l k) nk nv r by rw [Tr.del,if_pos hlt]]
     go_enter Tryz.func157,Tryz.ntmps157
     go_wp2_with (go_at_call 158; refine (qg3 _ _ hlt _).mono ?_; rintro e w' ⟨rfl,rfl⟩)
     go_region_held3 (fun w' => w'.cell? ⟨b,0,none⟩ = some (Value.string nk) /\ w'.cell? ⟨b,1,none⟩ = some (fvS nv) /\ w'.cell? ⟨b,2,none⟩ = some (fvN nv) /\ w'.cell? ⟨b,3,none⟩ = some (.pointer ul) /\ w'.cell? ⟨b,4,none⟩ = some (.pointer ur))
      (first | go_keep | ((repeat' apply And.intro) <;> (refine (hb1.cell (by simp <;> omega)).trans ?_; simp [go_sem, *])))
      (first
        | (go_at_call 157; refine (ihl k ul _ ?_ hBl hfl (by omega)).mono ?_; (repeat (first | with_reducible exact hl | refine Rp.alloc _ ?_ | refine Rp.drew ?_)); rintro e w1 ⟨u1,rfl,hr1,hb1⟩)
        | (go_at_call 173; refine (qbn (P := P) (Tr.del ltS l k) r u1 ur _ _ _ hr1 ?_ (by omega)).mono ?_; refine Rp.below hb1 nlq ?_; (repeat (first | with_reducible exact hr | refine Rp.alloc _ ?_ | refine Rp.drew ?_)); rintro e w2 ⟨u2,rfl,hr2,hb2⟩; replace hb1 := hb1.trans (hb2.mono hb1.size)))
     go_wp2
     go_ret
     exact ⟨_,rfl,hr2,Tr.below_of hb1 (by repeat (first | exact blq | apply Below.drew | refine Below.alloc ?_ (by simp <;> omega) _))⟩
   | false =>
     cases hgt : ltS nk k with
     | true =>
       have szr := Tr.size_del linS k hBr
       have hfr : Tr.find ltS k r ≠ .nil := by rwa [Tr.find,if_neg (by rw [hlt]; decide),if_pos hgt] at hf
       clear hf hlk hrk
       rw [show Tr.del ltS (.node nk nv l r) k = Tr.bal l nk nv (Tr.del ltS r k) by rw [Tr.del,if_neg (by rw [hlt]; decide),if_pos hgt]]
       go_enter Tryz.func157,Tryz.ntmps157
       go_wp2_with (go_at_call 158; refine (qg4 _ _ hgt _).mono ?_; rintro e w' ⟨rfl,rfl⟩)
       go_region_held3 (fun w' => w'.cell? ⟨b,0,none⟩ = some (Value.string nk) /\ w'.cell? ⟨b,1,none⟩ = some (fvS nv) /\ w'.cell? ⟨b,2,none⟩ = some (fvN nv) /\ w'.cell? ⟨b,3,none⟩ = some (.pointer ul) /\ w'.cell? ⟨b,4,none⟩ = some (.pointer ur))
        (first | go_keep | ((repeat' apply And.intro) <;> (refine (hb1.cell (by simp <;> omega)).trans ?_; simp [go_sem, *])))
        (first
          | (go_at_call 157; refine (ihr k ur _ ?_ hBr hfr (by omega)).mono ?_; (repeat (first | with_reducible exact hr | refine Rp.alloc _ ?_ | refine Rp.drew ?_)); rintro e w1 ⟨u1,rfl,hr1,hb1⟩)
          | (go_at_call 173; refine (qbn (P := P) l (Tr.del ltS r k) ul u1 _ _ _ ?_ hr1 (by omega)).mono ?_; refine Rp.below hb1 nlq ?_; (repeat (first | with_reducible exact hl | refine Rp.alloc _ ?_ | refine Rp.drew ?_)); rintro e w2 ⟨u2,rfl,hr2,hb2⟩; replace hb1 := hb1.trans (hb2.mono hb1.size)))
       go_wp2
       go_ret
       exact ⟨_,rfl,hr2,Tr.below_of hb1 (by repeat (first | exact blq | apply Below.drew | refine Below.alloc ?_ (by simp <;> omega) _))⟩
     | false =>
       obtain rfl : k = nk := qbz hlt hgt
       clear hf hlk hrk
       cases l with
       | nil =>
         obtain ⟨rfl,hE⟩ := hl
         rw [show Tr.del ltS (.node k nv .nil r) k = r by rw [Tr.del,if_neg (by rw [hlt]; decide),if_neg (by rw [hlt]; decide)]; rfl]
         go_enter Tryz.func157,Tryz.ntmps157
         go_wp2_with (go_at_call 158; refine (cmp_eq _ _).mono ?_; rintro e w' ⟨rfl,rfl⟩)
         go_ret
         exact ⟨_,rfl,hr,blq⟩
       | node lk lv ll lr =>
         have hl2 := hl
         obtain ⟨bl,ull,ulr,rfl,_⟩ := hl2
         cases r with
         | nil =>
           obtain ⟨rfl,hE⟩ := hr
           rw [show Tr.del ltS (.node k nv (.node lk lv ll lr) .nil) k = .node lk lv ll lr by rw [Tr.del,if_neg (by rw [hlt]; decide),if_neg (by rw [hlt]; decide)]; rfl]
           go_enter Tryz.func157,Tryz.ntmps157
           go_wp2_with (go_at_call 158; refine (cmp_eq _ _).mono ?_; rintro e w' ⟨rfl,rfl⟩)
           go_ret
           exact ⟨_,rfl,hl,blq⟩
         | node rk rv rl rr =>
           have hr2 := hr
           obtain ⟨br,url,urr,rfl,_⟩ := hr2
           rw [show Tr.del ltS (.node k nv (.node lk lv ll lr) (.node rk rv rl rr)) k = Tr.bal (.node lk lv ll lr) (Tr.first (k,nv) (.node rk rv rl rr)).1 (Tr.first (k,nv) (.node rk rv rl rr)).2 (Tr.del ltS (.node rk rv rl rr) (Tr.first (k,nv) (.node rk rv rl rr)).1) by rw [Tr.del,if_neg (by rw [hlt]; decide),if_neg (by rw [hlt]; decide)]; rfl]
           have hp0 : (Tr.node rk rv rl rr).list[0]? = some (Tr.first (k,nv) (.node rk rv rl rr)) := by
            obtain ⟨m,hm⟩ := Tr.first_head (k,nv) (.node rk rv rl rr) rfl
            rw [hm]; rfl
           have hff : Tr.find ltS (Tr.first (k,nv) (.node rk rv rl rr)).1 (.node rk rv rl rr) ≠ .nil := by
            obtain ⟨m,hm⟩ := Tr.first_head (k,nv) (.node rk rv rl rr) rfl
            exact Tr.find_of_mem linS (v := (Tr.first (k,nv) (.node rk rv rl rr)).2) hBr (by rw [hm]; exact List.mem_cons_self)
           generalize Tr.first (k,nv) (.node rk rv rl rr) = p at hp0 hff ⊢
           obtain ⟨pk,pv⟩ := p
           have szr := Tr.size_del linS pk hBr
           have HP : RowKit.Hid ((Tr.node rk rv rl rr).list[0]? = some (pk,pv)) := hp0
           clear hp0
           go_enter Tryz.func157,Tryz.ntmps157
           go_wp2_with (first
            | (go_at_call 158; refine (cmp_eq _ _).mono ?_; rintro e w' ⟨rfl,rfl⟩)
            | (go_at_call 174; refine (qlL (P := P) (.node rk rv rl rr) _ (pk,pv) _ hr (by simp only [Tr.size_node] at hs ⊢; omega) HP.out).mono ?_; rintro e w0 ⟨rfl,hb0⟩))
           have hbw0 : b < w0.heap.size := Nat.lt_of_lt_of_le hbw hb0.size
           have c2' : w0.cell? ⟨b,3,none⟩ = some (.pointer (some ⟨bl,0,none⟩)) := (hb0.cell hbw).trans c2
           have c3' : w0.cell? ⟨b,4,none⟩ = some (.pointer (some ⟨br,0,none⟩)) := (hb0.cell hbw).trans c3
           have hl0 := hl.below hb0 nlq
           have hr0 := hr.below hb0 nlq
           go_region_held3 (fun w' => (w'.cell? ⟨b,3,none⟩ = some (.pointer (some ⟨bl,0,none⟩)) /\ w'.cell? ⟨b,4,none⟩ = some (.pointer (some ⟨br,0,none⟩))) ∧
            w'.cell? ⟨w0.heap.size,0,none⟩ = some (Value.string pk) /\ w'.cell? ⟨w0.heap.size,1,none⟩ = some (fvS pv) /\ w'.cell? ⟨w0.heap.size,2,none⟩ = some (fvN pv))
            (first | go_keep | ((repeat' apply And.intro) <;> (refine (hb1.cell (by simp <;> omega)).trans ?_; simp [go_sem, *])))
            (first
              | (go_at_call 157; refine (ihr pk _ _ ?_ hBr hff (by simp only [Tr.size_node] at hs ⊢; omega)).mono ?_; (repeat (first | with_reducible exact hr0 | refine Rp.alloc _ ?_ | refine Rp.drew ?_)); rintro e w1 ⟨u1,rfl,hr1,hb1⟩)
              | (go_at_call 173; refine (qbn (P := P) (.node lk lv ll lr) (Tr.del ltS (.node rk rv rl rr) pk) _ u1 _ _ _ ?_ hr1 (by simp only [Tr.size_node] at hs szr ⊢; omega)).mono ?_; refine Rp.below hb1 nlq ?_; (repeat (first | with_reducible exact hl0 | refine Rp.alloc _ ?_ | refine Rp.drew ?_)); rintro e w2 ⟨u2,rfl,hr2,hb2⟩; replace hb1 := hb1.trans (hb2.mono hb1.size)))
           go_wp2
           go_ret
           exact ⟨_,rfl,hr2,Tr.below_of hb0 blq |>.trans ((Tr.below_of hb1 (by repeat (first | exact blq | apply Below.drew | refine Below.alloc ?_ (by simp <;> omega) _))).mono hb0.size)⟩
end Go.Proofs.YtmeoooojmhhahaaGreat.MapFl
namespace Go.Proofs.YtmeoooojmhhahaaGreat.MapFl
open Go.RowKit Go.Proofs.YtmeoooojmhhahaaGreat
variable {P : Nat → Prop}
theorem qg6 : (Tryz.prog.info? 149).map (fun i => (i.zero,i.size,i.bytes)) = some (some (.agg #[(Value.string ⟨#[]⟩),(Value.slice none 0 0),(Value.int .i64 0)]),3,48) := by kernel_rfl
def cellsL (l : List (ByteArray × FV)) : List Value := l.flatMap fun p => [Value.string p.1,fvS p.2,fvN p.2]
theorem qiV : cellsL [] = [] := rfl
theorem qfe (a b : List (ByteArray × FV)) : cellsL (a ++ b) = cellsL a ++ cellsL b := List.flatMap_append
theorem qiW (p : ByteArray × FV) : cellsL [p] = [Value.string p.1,fvS p.2,fvN p.2] := rfl
def Gath (W : World) (n : Nat) (xs : List Value) (l : List (ByteArray × FV)) (e : Ending) (w' : World) : Prop :=
 ∃ g cap,e = .returned (.slice (some ⟨g,0,none⟩) (n + l.length) cap) /\ w'.ownsRow W.heap.size 149 3 (.slice (some ⟨g,0,none⟩) (n + l.length) cap) (n + l.length) (xs ++ cellsL l) /\ Below W.heap.size W w'
theorem qeQ {W w : World} {n g cap : Nat} {xs : List Value} {l : List (ByteArray × FV)} (hl : l = []) (ho : w.ownsRow W.heap.size 149 3 (.slice (some ⟨g,0,none⟩) n cap) n xs) (hb : Below W.heap.size W w) :
 Gath W n xs l (.returned (.slice (some ⟨g,0,none⟩) n cap)) w := by
 subst hl
 exact ⟨g,cap,rfl,by simpa [qiV] using ho,hb⟩
theorem qg7 {W w : World} {n m : Nat} {xs xs1 : List Value} {pre l tot : List (ByteArray × FV)} {e : Ending} (h : Gath W m xs1 l e w) (h1 : RowKit.Hid (xs1 = xs ++ cellsL pre)) (h2 : RowKit.Hid (m = n + pre.length)) (h3 : RowKit.Hid (tot = pre ++ l)) : Gath W n xs tot e w := by
 have h1 := h1.out
 have h2 := h2.out
 have h3 := h3.out
 subst h1 h2 h3
 obtain ⟨g,cap,he,ho,hb⟩ := h
 refine ⟨g,cap,?_,?_,hb⟩
 · rw [he,List.length_append,Nat.add_assoc]
 · rw [List.length_append,qfe,<- Nat.add_assoc,<- List.append_assoc]; exact ho
theorem qiX (W : World) (t : T) : ∀ (u : Option Addr) (w : World) (g n cap : Nat) (xs : List Value) (f o : Int),Rp P W u t -> Below W.heap.size W w →
 w.ownsRow W.heap.size 149 3 (.slice (some ⟨g,0,none⟩) n cap) n xs -> n + t.size <= 4000000 -> (t.size : Int) <= f + 8000000 -> (t.size : Int) <= o + 8000000 -> f <= 4000000 -> o <= 4000000 →
 Calls Tryz.prog 156 #[.pointer u, .slice (some ⟨g,0,none⟩) n cap, .int .i64 f, .int .i64 o] w (Gath W n xs (Tr.sub f o t.list)) := by
 induction t with
 | nil =>
   intro u w g n cap xs f o h hb ho _ _ _ _ _
   have h0 := h
   obtain ⟨rfl,hE⟩ := h
   have hg := qeQ (l := Tr.sub f o ([] : List (ByteArray × FV))) (Tr.sub_nil f o) ho hb
   go_enter Tryz.func156,Tryz.ntmps156
   go_wp2
   go_ret
   exact hg
 | node nk nv l r ihl ihr =>
   intro u w g n cap xs f o h hb ho hs hf1 ho1 hf2 ho2
   have hsz := Tr.size_node nk nv l r
   obtain ⟨b,ul,ur,rfl,hPb,c0,c1,c1b,c2,c3,c4,c5,hl,hr⟩ := h
   have hbW : b < W.heap.size := World.block_lt_of_cell? W _ c0
   have lenl : (l.list.length : Int) = l.size := by rw [Tr.length_list]
   by_cases h1 : o <= 0
   · have hg := qeQ (l := Tr.sub f o (Tr.node nk nv l r).list) (Tr.sub_to f o _ h1) ho hb
     go_enter Tryz.func156,Tryz.ntmps156
     go_wp2
     go_ret
     exact hg
   · obtain ⟨sz,hsz'⟩ : ∃ sz : Nat,l.size + 1 + r.size = sz := ⟨_,rfl⟩
     rw [hsz'] at c4 hsz
     have d0 : w.cell? ⟨b,0,none⟩ = some (Value.string nk) := (hb.cell hbW).trans c0
     obtain ⟨d1,d1b⟩ : w.cell? ⟨b,1,none⟩ = some (fvS nv) /\ w.cell? ⟨b,2,none⟩ = some (fvN nv) := ⟨(hb.cell hbW).trans c1,(hb.cell hbW).trans c1b⟩
     have d2 : w.cell? ⟨b,3,none⟩ = some (.pointer ul) := (hb.cell hbW).trans c2
     have d3 : w.cell? ⟨b,4,none⟩ = some (.pointer ur) := (hb.cell hbW).trans c3
     have d4 : w.cell? ⟨b,5,none⟩ = some (.int .i64 (sz : Int)) := (hb.cell hbW).trans c4
     by_cases h2 : (sz : Int) <= f
     · have hg := qeQ (l := Tr.sub f o (Tr.node nk nv l r).list) (Tr.sub_from f o _ (by rw [Tr.length_list,hsz]; exact h2)) ho hb
       clear hsz hsz' lenl
       go_enter Tryz.func156,Tryz.ntmps156
       go_wp2
       go_ret
       exact hg
     · have h1' : 0 < o := by omega
       have h2' : f < (sz : Int) := by omega
       have hlb : (l.size : Int) <= 4000000 := by omega
       have hrb : (r.size : Int) <= 4000000 := by omega
       have bl1 : (l.size : Int) <= f + 8000000 := by omega
       have bl2 : (l.size : Int) <= o + 8000000 := by omega
       have br1 : (r.size : Int) <= (f - l.size - 1) + 8000000 := by omega
       have br2 : (r.size : Int) <= (o - l.size - 1) + 8000000 := by omega
       have br3 : f - l.size - 1 <= 4000000 := by omega
       have br4 : o - l.size - 1 <= 4000000 := by omega
       have bn1 : n + l.size <= 4000000 := by omega
       have bn2 : n + l.size + 1 + r.size <= 4000000 := by omega
       have hle : (Tr.sub f o l.list).length <= l.size := by unfold Tr.sub; rw [<- Tr.length_list]; simp; omega
       have HS : RowKit.Hid (Tr.sub f o (Tr.node nk nv l r).list = Tr.sub f o l.list ++ ((if f <= l.list.length /\ (l.list.length : Int) < o then [(nk,nv)] else []) ++ Tr.sub (f - l.list.length - 1) (o - l.list.length - 1) r.list)) := Tr.sub_node f o l.list r.list (nk,nv)
       rw [lenl] at HS
       clear hsz hsz' lenl hs h1 h2
       obtain ⟨i0,hi0,hz0,hz1,hz2⟩ := info_parts qg6
       by_cases h3 : f <= (l.size : Int) /\ (l.size : Int) < o
       · obtain ⟨h3a,h3b⟩ := h3
         have HT : RowKit.Hid (Tr.sub f o (Tr.node nk nv l r).list = (Tr.sub f o l.list ++ [(nk,nv)]) ++ Tr.sub (f - l.size - 1) (o - l.size - 1) r.list) := by
          have := HS.out
          rw [if_pos ⟨h3a,h3b⟩] at this
          rw [List.append_assoc]; exact this
         clear HS
         have IH : ∀ w',Below W.heap.size W w' -> ∀ g n cap xs,w'.ownsRow W.heap.size 149 3 (.slice (some ⟨g,0,none⟩) n cap) n xs -> n + r.size <= 4000000 →
          Calls Tryz.prog 156 #[.pointer ur, .slice (some ⟨g,0,none⟩) n cap, .int .i64 (f - l.size - 1), .int .i64 (o - l.size - 1)] w' (Gath W n xs (Tr.sub (f - l.size - 1) (o - l.size - 1) r.list)) :=
          fun w' hb' g n cap xs ho' hn => ihr ur w' g n cap xs _ _ hr hb' ho' hn br1 br2 br3 br4
         go_enter Tryz.func156,Tryz.ntmps156
         go_wp2_with (first
          | (go_at_call 155; refine (count_any (P := P) l ul _ (Rp.below hb nlq hl)).mono ?_; rintro e w' ⟨rfl,rfl⟩)
          | (go_at_call_of 156 (Value.pointer ul); refine (ihl ul _ g n cap xs f o hl hb ho bn1 bl1 bl2 hf2 ho2).mono ?_; rintro e w1 ⟨g1,cap1,rfl,ho1,hb1⟩
             generalize hm : n + (Tr.sub f o l.list).length = m at ho1 ⊢
             have HM : RowKit.Hid (m = n + (Tr.sub f o l.list).length) := hm.symm
             have hm2 : m + 1 + r.size <= 4000000 := by omega
             clear hm
             have e0 : w1.cell? ⟨b,0,none⟩ = some (Value.string nk) := (hb1.cell hbW).trans c0
             obtain ⟨e1,e1b⟩ : w1.cell? ⟨b,1,none⟩ = some (fvS nv) /\ w1.cell? ⟨b,2,none⟩ = some (fvN nv) := ⟨(hb1.cell hbW).trans c1,(hb1.cell hbW).trans c1b⟩
             have hbw1 : b < w1.heap.size := Nat.lt_of_lt_of_le hbW hb1.size)
          | (at_builtin; refine wpList_append_lies _ rfl _ _ 144 rfl W.heap.size 149 i0 _ 3 48 Tryz.underlying144 hi0 hz0 hz1 hz2 rfl (by omega) (.slice (some ⟨g1,0,none⟩) m cap1) m _ rfl (ho1.alloc _) ⟨w1.heap.size,0,none⟩ 1 1 [Value.string nk,fvS nv,fvN nv] rfl rfl (World.news_of_block (heap_alloc_new w1 _)) (by simp [Value.oneCell']) (by omega) (by unfold maxLen; omega) (by omega) (by have := hb1.size; simp; omega) (w1.heap.size + 1) (by simp) ?_
             intro g2 cap2 w2 ho2 hgr2 hat2 hlt2
             have hb2 : Below W.heap.size W w2 := (hb1.alloc hb1.size _).grown hgr2 (by have := hb1.size; simp; omega) (fun k hk => (ho1.lt k hk).1)
             have e3 : w2.cell? ⟨b,4,none⟩ = some (.pointer ur) := (hb2.cell hbW).trans c3)
          | (go_at_call_of 156 (Value.pointer ur); refine (IH w2 hb2 g2 (m + 1) cap2 _ ho2 hm2).mono ?_; rintro e w3 ⟨g3,cap3,rfl,ho3,hb3⟩
             have hG : Gath W (m + 1) (xs ++ cellsL (Tr.sub f o l.list) ++ [Value.string nk,fvS nv,fvN nv]) (Tr.sub (f - l.size - 1) (o - l.size - 1) r.list) (.returned (.slice (some ⟨g3,0,none⟩) (m + 1 + (Tr.sub (f - l.size - 1) (o - l.size - 1) r.list).length) cap3)) w3 := ⟨g3,cap3,rfl,ho3,hb3⟩
             clear ho3 hb3))
         go_ret
         exact qg7 (pre := Tr.sub f o l.list ++ [(nk,nv)]) hG (show _ = _ by rw [qfe,qiW,List.append_assoc]) (show _ = _ by rw [List.length_append,HM.out,Nat.add_assoc]; rfl) HT
       · have HT : RowKit.Hid (Tr.sub f o (Tr.node nk nv l r).list = Tr.sub f o l.list ++ Tr.sub (f - l.size - 1) (o - l.size - 1) r.list) := by
          have := HS.out
          rw [if_neg h3] at this
          rw [this]; rfl
         clear HS
         have IH : ∀ w',Below W.heap.size W w' -> ∀ g n cap xs,w'.ownsRow W.heap.size 149 3 (.slice (some ⟨g,0,none⟩) n cap) n xs -> n + r.size <= 4000000 →
          Calls Tryz.prog 156 #[.pointer ur, .slice (some ⟨g,0,none⟩) n cap, .int .i64 (f - l.size - 1), .int .i64 (o - l.size - 1)] w' (Gath W n xs (Tr.sub (f - l.size - 1) (o - l.size - 1) r.list)) :=
          fun w' hb' g n cap xs ho' hn => ihr ur w' g n cap xs _ _ hr hb' ho' hn br1 br2 br3 br4
         have h3' : (f <= (l.size : Int) /\ o <= (l.size : Int)) \/ (l.size : Int) < f := by omega
         clear h3
         rcases h3' with ⟨h3a,h3b⟩ | h3a
         all_goals
          go_enter Tryz.func156,Tryz.ntmps156
          go_wp2_with (first
           | (go_at_call 155; refine (count_any (P := P) l ul _ (Rp.below hb nlq hl)).mono ?_; rintro e w' ⟨rfl,rfl⟩)
           | (go_at_call_of 156 (Value.pointer ul); refine (ihl ul _ g n cap xs f o hl hb ho bn1 bl1 bl2 hf2 ho2).mono ?_; rintro e w1 ⟨g1,cap1,rfl,ho1,hb1⟩
              generalize hm : n + (Tr.sub f o l.list).length = m at ho1 ⊢
              have HM : RowKit.Hid (m = n + (Tr.sub f o l.list).length) := hm.symm
              have hm2 : m + r.size <= 4000000 := by omega
              clear hm
              have e3 : w1.cell? ⟨b,4,none⟩ = some (.pointer ur) := (hb1.cell hbW).trans c3)
           | (go_at_call_of 156 (Value.pointer ur); refine (IH w1 hb1 g1 m cap1 _ ho1 hm2).mono ?_; rintro e w3 ⟨g3,cap3,rfl,ho3,hb3⟩
              have hG : Gath W m (xs ++ cellsL (Tr.sub f o l.list)) (Tr.sub (f - l.size - 1) (o - l.size - 1) r.list) (.returned (.slice (some ⟨g3,0,none⟩) (m + (Tr.sub (f - l.size - 1) (o - l.size - 1) r.list).length) cap3)) w3 := ⟨g3,cap3,rfl,ho3,hb3⟩
              clear ho3 hb3))
          go_ret
          exact qg7 hG rfl HM HT
end Go.Proofs.YtmeoooojmhhahaaGreat.MapFl
namespace Go.Proofs.YtmeoooojmhhahaaGreat.MapFl
open Go.RowKit Go.Proofs.YtmeoooojmhhahaaGreat
variable {P : Nat → Prop}
theorem put_map (t : T) (u : Option Addr) (k : ByteArray) (v : FV) (w : World) (h : Rp P w u t) (hs : t.size + 1 <= 4000000) :
 Calls Tryz.prog 125 #[.agg #[.pointer u],Value.string k,(.agg #[fvS v,fvN v])] w fun e w' => ∃ u',e = .returned (.agg #[.pointer u']) /\ Rp P w' u' (Tr.put ltS k v t) /\ Below w.heap.size w w' := by
 go_enter Tryz.func125,Tryz.ntmps125
 go_wp2_with (go_at_call 154; refine (qlK (P := P) k v t u _ ?_ hs).mono ?_; (repeat (first | with_reducible exact h | refine Rp.alloc _ ?_ | refine Rp.drew ?_)); rintro e w1 ⟨u1,rfl,hr1,hb1⟩
              have hz : w.heap.size + 2 < w1.heap.size := by have := hb1.size; simp at this; omega
              have k0 : w1.cell? ⟨w.heap.size + 2,0,none⟩ = some (.pointer none) := (hb1.cell (by simp)).trans (by simp [go_sem])
              have k1 : w1.cell? ⟨w.heap.size + 2,1,none⟩ = none := (hb1.cell (by simp)).trans (by simp [go_sem])
              have k2 : w1.frozen? ⟨w.heap.size + 2,0,none⟩ = false := (hb1.frozen (by simp)).trans (by simp [go_sem]))
 have ks : (w1.setCell ⟨w.heap.size + 2,0,none⟩ (.pointer u1)).cell? ⟨w.heap.size + 2,0,none⟩ = some (.pointer u1) := World.cell?_setCell_same _ _ _ k0
 exact bodyPost_ret (v := .agg #[.pointer u1]) (by simp [results,Tryz.results125,go_sem,ks]) rfl ⟨u1,rfl,hr1.setCell k1 _,(Tr.below_of hb1 (by repeat (first | exact blq | apply Below.drew | refine Below.alloc ?_ (by simp <;> omega) _))).setCell (by simp <;> omega) _⟩
theorem qg8 (t : T) (u : Option Addr) (k k' : ByteArray) (v' : FV) (a b : T) (hf : Tr.find ltS k t = .node k' v' a b) (w : World) (h : Rp P w u t) :
 Calls Tryz.prog 131 #[.pointer u,Value.string k] w fun e w' => ∃ b,e = .returned (.pointer (some ⟨b,0,none⟩)) /\ b < w.heap.size /\ (w.cell? ⟨b,1,none⟩ = some (fvS v') /\ w.cell? ⟨b,2,none⟩ = some (fvN v')) /\ w = w' := by
 have H := qg5 (P := P) k t u w h
 rw [hf] at H
 refine H.mono ?_
 rintro e w' ⟨u1,rfl,hr,rfl⟩
 obtain ⟨b,ul,ur,rfl,hPb,c0,c1,c1b,c2,c3,c4,c5,hl,hr⟩ := hr
 exact ⟨b,rfl,World.block_lt_of_cell? w _ c0,⟨c1,c1b⟩,rfl⟩
theorem qir (t : T) (u : Option Addr) (k : ByteArray) (hf : Tr.find ltS k t = .nil) (w : World) (h : Rp P w u t) :
 Calls Tryz.prog 131 #[.pointer u,Value.string k] w fun e w' => e = .returned (.pointer none) /\ w = w' := by
 have H := qg5 (P := P) k t u w h
 rw [hf] at H
 refine H.mono ?_
 rintro e w' ⟨u1,rfl,hr,rfl⟩
 obtain ⟨rfl,_⟩ := hr
 exact ⟨rfl,rfl⟩
theorem len_map (t : T) (u : Option Addr) (w : World) (h : Rp P w u t) :
 Calls Tryz.prog 126 #[.agg #[.pointer u]] w fun e w' => e = .returned (.int .i64 (t.size : Int)) /\ Below w.heap.size w w' := by
 go_enter Tryz.func126,Tryz.ntmps126
 go_wp2_with (go_at_call 155; refine (count_any (P := P) t u _ ?_).mono ?_; (repeat (first | with_reducible exact h | refine Rp.alloc _ ?_ | refine Rp.drew ?_)); rintro e w1 ⟨rfl,rfl⟩)
 go_ret
 exact ⟨rfl,blq.alloc nlq _⟩
theorem get_yes (t : T) (u : Option Addr) (k k' : ByteArray) (v' : FV) (a b : T) (w : World) (h : Rp P w u t) (hf : Tr.find ltS k t = .node k' v' a b) :
 Calls Tryz.prog 88 #[.agg #[.pointer u],Value.string k] w fun e w' => e = .returned (.tuple #[(.agg #[fvS v',fvN v']), .bool true]) /\ Below w.heap.size w w' := by
 have H := fun w h => qg8 (P := P) t u k k' v' a b hf w h
 clear hf
 go_enter Tryz.func88,Tryz.ntmps88
 go_wp2_with (go_at_call 131; refine (H _ ?_).mono ?_; (repeat (first | with_reducible exact h | refine Rp.alloc _ ?_ | refine Rp.drew ?_)); rintro e w1 ⟨b,rfl,hbw,⟨c1,c1b⟩,rfl⟩)
 refine bodyPost_ret (qa (n := w.heap.size + 1) rfl rfl (heap_alloc2_new _ _ _) Tryz.underlying147 rfl (by kernel_rfl)) rfl ?_
 exact ⟨rfl,(blq.alloc nlq _).alloc (by simp) _⟩
theorem get_no (t : T) (u : Option Addr) (k : ByteArray) (w : World) (h : Rp P w u t) (hf : Tr.find ltS k t = .nil) :
 Calls Tryz.prog 88 #[.agg #[.pointer u],Value.string k] w fun e w' => e = .returned (.tuple #[(.agg #[(Value.slice none 0 0),(Value.int .i64 0)]), .bool false]) /\ Below w.heap.size w w' := by
 have H := fun w h => qir (P := P) t u k hf w h
 clear hf
 go_enter Tryz.func88,Tryz.ntmps88
 go_wp2_with (go_at_call 131; refine (H _ ?_).mono ?_; (repeat (first | with_reducible exact h | refine Rp.alloc _ ?_ | refine Rp.drew ?_)); rintro e w1 ⟨rfl,rfl⟩)
 have HX : (((w.alloc (.cells #[.pointer u] 90)).alloc (.cells #[(Value.slice none 0 0),(Value.int .i64 0)] 147)).alloc (.cells #[(Value.slice none 0 0),(Value.int .i64 0)] 147)).heap[w.heap.size + 1]? = some (.cells #[(Value.slice none 0 0),(Value.int .i64 0)] 147) := (Below.heap_alloc _ _ _ (by simp)).trans (heap_alloc2_new _ _ _)
 refine bodyPost_ret (qa (n := w.heap.size + 1) rfl rfl HX Tryz.underlying147 rfl (by kernel_rfl)) rfl ?_
 exact ⟨rfl,((blq.alloc nlq _).alloc (by simp) _).alloc (by simp; omega) _⟩
theorem qhY (t : T) (u : Option Addr) (k k' : ByteArray) (v' : FV) (a b : T) (w : World) (h : Rp P w u t) (hB : Tr.Bst ltS t) (hs : t.size <= 4000000) (hf : Tr.find ltS k t = .node k' v' a b) :
 Calls Tryz.prog 129 #[.agg #[.pointer u],Value.string k] w fun e w' => ∃ u',e = .returned (.agg #[.pointer u']) /\ Rp P w' u' (Tr.del ltS t k) /\ Below w.heap.size w w' := by
 have H := fun w h => qg8 (P := P) t u k k' v' a b hf w h
 have hf' : Tr.find ltS k t ≠ .nil := by rw [hf]; exact fun e => by cases e
 clear hf
 go_enter Tryz.func129,Tryz.ntmps129
 go_wp2_with (first
  | (go_at_call 131; refine (H _ ?_).mono ?_; (repeat (first | with_reducible exact h | refine Rp.alloc _ ?_ | refine Rp.drew ?_)); rintro e w1 ⟨b,rfl,hbw,_,rfl⟩)
  | (go_at_call 157; refine (qlM (P := P) t k u _ ?_ hB hf' hs).mono ?_; (repeat (first | with_reducible exact h | refine Rp.alloc _ ?_ | refine Rp.drew ?_)); rintro e w1 ⟨u1,rfl,hr1,hb1⟩
     have hz : w.heap.size + 1 < w1.heap.size := by have := hb1.size; simp at this; omega
     have k0 : w1.cell? ⟨w.heap.size + 1,0,none⟩ = some (.pointer none) := (hb1.cell (by simp)).trans (by simp [go_sem])
     have k1 : w1.cell? ⟨w.heap.size + 1,1,none⟩ = none := (hb1.cell (by simp)).trans (by simp [go_sem])
     have k2 : w1.frozen? ⟨w.heap.size + 1,0,none⟩ = false := (hb1.frozen (by simp)).trans (by simp [go_sem])))
 have ks : (w1.setCell ⟨w.heap.size + 1,0,none⟩ (.pointer u1)).cell? ⟨w.heap.size + 1,0,none⟩ = some (.pointer u1) := World.cell?_setCell_same _ _ _ k0
 exact bodyPost_ret (v := .agg #[.pointer u1]) (by simp [results,Tryz.results129,go_sem,ks]) rfl ⟨u1,rfl,hr1.setCell k1 _,(Tr.below_of hb1 (by repeat (first | exact blq | apply Below.drew | refine Below.alloc ?_ (by simp <;> omega) _))).setCell (by simp <;> omega) _⟩
theorem qiY (t : T) (u : Option Addr) (k : ByteArray) (w : World) (h : Rp P w u t) (hf : Tr.find ltS k t = .nil) :
 Calls Tryz.prog 129 #[.agg #[.pointer u],Value.string k] w fun e w' => ∃ u',e = .returned (.agg #[.pointer u']) /\ Rp P w' u' t /\ Below w.heap.size w w' := by
 have H := fun w h => qir (P := P) t u k hf w h
 clear hf
 go_enter Tryz.func129,Tryz.ntmps129
 go_wp2_with (go_at_call 131; refine (H _ ?_).mono ?_; (repeat (first | with_reducible exact h | refine Rp.alloc _ ?_ | refine Rp.drew ?_)); rintro e w1 ⟨rfl,rfl⟩)
 exact bodyPost_ret (v := .agg #[.pointer u]) (by simp [results,Tryz.results129,go_sem]) rfl ⟨u,rfl,(h.alloc _).alloc _,(blq.alloc nlq _).alloc (by simp) _⟩
theorem del_map (t : T) (u : Option Addr) (k : ByteArray) (w : World) (h : Rp P w u t) (hB : Tr.Bst ltS t) (hs : t.size <= 4000000) :
 Calls Tryz.prog 129 #[.agg #[.pointer u],Value.string k] w fun e w' => ∃ u' t',e = .returned (.agg #[.pointer u']) /\ Rp P w' u' t' /\ (t' = Tr.del ltS t k /\ Tr.find ltS k t ≠ .nil \/ t' = t /\ Tr.find ltS k t = .nil) /\ Below w.heap.size w w' := by
 cases hf : Tr.find ltS k t with
 | nil => exact (qiY t u k w h hf).mono fun e w' ⟨u',he,hr,hb⟩ => ⟨u',t,he,hr, .inr ⟨rfl,rfl⟩,hb⟩
 | node k' v' a b => exact (qhY t u k k' v' a b w h hB hs hf).mono fun e w' ⟨u',he,hr,hb⟩ => ⟨u',Tr.del ltS t k,he,hr, .inl ⟨rfl,fun e => by cases e⟩,hb⟩
theorem qg9 {w : World} {B B' : Nat} {e : TypeId} {size n : Nat} {v : Value} {xs : List Value} (h : w.ownsRow B e size v n xs) (hB : B' <= B) : w.ownsRow B' e size v n xs := by
 obtain ⟨h1,h2⟩ := h
 rcases h2 with h2 | ⟨g,cap,cur,a,b,c⟩
 · exact ⟨h1, .inl h2⟩
 · exact ⟨h1, .inr ⟨g,cap,cur,a,Nat.le_trans hB b,c⟩⟩
def Lst (w : World) (l : List (ByteArray × FV)) (e : Ending) (w' : World) : Prop :=
 ∃ A c,e = .returned (.slice A l.length c) /\ w'.ownsRow w.heap.size 149 3 (.slice A l.length c) l.length (cellsL l) /\ Below w.heap.size w w'
theorem qiZ (t : T) (u : Option Addr) (f o : Nat) (w : World) (h : Rp P w u t) (hs : t.size <= 4000000) (hf : f <= 4000000) (ho : o <= 4000000) :
 Calls Tryz.prog 128 #[.agg #[.pointer u], .int .i64 f, .int .i64 o] w (Lst w (Tr.sub f o t.list)) := by
 by_cases hfo : o <= f
 · have HE : RowKit.Hid (Tr.sub f o t.list = []) := (show _ = _ from Tr.sub_none f o t.list hfo)
   have hfo' : (o : Int) <= (f : Int) := by omega
   go_enter Tryz.func128,Tryz.ntmps128
   go_wp2
   go_ret
   rw [HE.out]
   exact ⟨none,0,rfl,World.ownsRow_nil _ _ _ _,blq.alloc nlq _⟩
 · obtain ⟨c,hc⟩ : ∃ c,o - f = c := ⟨_,rfl⟩
   have hfo' : (f : Int) < (o : Int) := by omega
   have hcb : c <= 4000000 := by omega
   have e1 : IntKind.i64.wrap ((o : Int) - (f : Int)) = (c : Int) := by rw [IntWalk.i64_in _ (by omega)]; omega
   have bf1 : (t.size : Int) <= (f : Int) + 8000000 := by omega
   have bf2 : (t.size : Int) <= (o : Int) + 8000000 := by omega
   have bf3 : (f : Int) <= 4000000 := by omega
   have bf4 : (o : Int) <= 4000000 := by omega
   clear hc hfo
   obtain ⟨i0,hi0,hz0,hz1,hz2⟩ := info_parts qg6
   have hmk : ∀ w1 : World,(Instr.makeSlice 144 (.int .i64 0) (.int .i64 (c : Int))).run Tryz.prog w1 = .ok (.slice (some ⟨w1.heap.size,0,none⟩) 0 c) (w1.alloc (.cells (madeCells #[(Value.string ⟨#[]⟩),(Value.slice none 0 0),(Value.int .i64 0)] (c * 3)) 149)) := fun w1 => by
    have := run_make (P := Tryz.prog) w1 144 149 i0 _ Tryz.underlying144 hi0 hz0 .i64 .i64 0 (c : Int) (Int.le_refl _) (by omega) (by rw [hz2]; omega) (by omega)
    rw [hz1] at this
    exact this
   clear hz0 hz1 hz2 hi0
   have hown : ((w.alloc (.cells #[.pointer u] 90)).alloc (.cells (madeCells #[(Value.string ⟨#[]⟩),(Value.slice none 0 0),(Value.int .i64 0)] (c * 3)) 149)).ownsRow (w.alloc (.cells #[.pointer u] 90)).heap.size 149 3 (.slice (some ⟨w.heap.size + 1,0,none⟩) 0 c) 0 [] := by
    have := World.ownsRow_made (base := (w.alloc (.cells #[.pointer u] 90)).heap.size) (e := 149) (size := 3) (w.alloc (.cells #[.pointer u] 90)) (madeCells #[(Value.string ⟨#[]⟩),(Value.slice none 0 0),(Value.int .i64 0)] (c * 3)) c nlq (by unfold maxLen; omega) (size_madeCells _ _)
    rwa [show (⟨(w.alloc (.cells #[.pointer u] 90)).heap.size,0,none⟩ : Addr) = ⟨w.heap.size + 1,0,none⟩ by rw [World.size_alloc]] at this
   go_enter Tryz.func128,Tryz.ntmps128
   go_wp2
   go_region_held3 (fun w' => w'.cell? ⟨w.heap.size,0,none⟩ = some (.pointer u)) (first | go_keep | (refine (hb1.cell (by simp)).trans ?_; simp [go_sem]))
    (first
      | (go_at_call 156
         refine (qiX (P := P) (w.alloc (.cells #[.pointer u] 90)) t u _ (w.heap.size + 1) 0 c [] f o (h.alloc _) ?_ ?_ (by omega) bf1 bf2 bf3 bf4).mono ?_
         exact (blq.alloc nlq _).drew
         exact hown
         rintro e w1 ⟨g1,cap1,rfl,ho1,hb1⟩
         rw [Nat.zero_add] at ho1 ⊢))
   go_wp2
   go_ret
   exact ⟨_,_,rfl,qg9 ho1 (by simp),Tr.below_of hb1 (by repeat (first | exact blq | apply Below.drew | refine Below.alloc ?_ (by simp <;> omega) _))⟩
theorem all_map (t : T) (u : Option Addr) (w : World) (h : Rp P w u t) (hs : t.size <= 4000000) :
 Calls Tryz.prog 78 #[.agg #[.pointer u]] w (Lst w t.list) := by
 have H := fun w h => qiZ (P := P) t u 0 t.size w h hs (by omega) hs
 rw [Tr.sub_all t.list (Tr.length_list t)] at H
 go_enter Tryz.func78,Tryz.ntmps78
 go_wp2
 go_region_held3 (fun w' => w'.cell? ⟨w.heap.size,0,none⟩ = some (.pointer u)) (first | go_keep | (refine (hb1.cell (by simp)).trans ?_; simp [go_sem]))
  (first
    | (go_at_call 126; refine (len_map (P := P) t u _ ?_).mono ?_; (repeat (first | with_reducible exact h | refine Rp.alloc _ ?_ | refine Rp.drew ?_)); rintro e w1 ⟨rfl,hb1⟩)
    | (go_at_call 128; refine (H _ (h.below (Tr.below_of hb1 (by repeat (first | exact blq | apply Below.drew | refine Below.alloc ?_ (by simp <;> omega) _))) nlq)).mono ?_; rintro e w2 ⟨A,c,rfl,ho2,hb2⟩; have hw := hb1.size; replace hb1 := hb1.trans (hb2.mono hb1.size)))
 go_wp2
 go_ret
 exact ⟨_,_,rfl,qg9 ho2 (Nat.le_trans (by simp) hw),Tr.below_of hb1 (by repeat (first | exact blq | apply Below.drew | refine Below.alloc ?_ (by simp <;> omega) _))⟩
end Go.Proofs.YtmeoooojmhhahaaGreat.MapFl
