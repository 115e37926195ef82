/- halved, sum.More, sum.Of, the reference's More and Of, each by its contract. -/
import Derived.Test.YtmeoooojmhhahaaGreatTCmn
import Derived.Test.YtmeoooojmhhahaaGreatTWalPure
import Derived.Test.YtmeoooojmhhahaaGreatRows
import Derived.Laws.BitsAllLaws
import Derived.Outline
import Derived.Lib.Hide
import Derived.Deep.LoopGhost
set_option linter.unusedVariables false
set_option linter.unusedSimpArgs false
set_option maxRecDepth 100000
set_option maxHeartbeats 4000000
namespace Go.Proofs.YtmeoooojmhhahaaGreat
open Go.RowKit
theorem and1 (r : Nat) (h : r < 4294967296) : bits .and .u32 (r : Int) 1 = ((r % 2 : Nat) : Int) := by
 have := u32_and_nat r 1 h (by decide)
 rw [nat_mask1] at this
 exact this
theorem xorP (r : Nat) (h : r < 4294967296) : bits .xor .u32 (r : Int) 3988292384 = ((r ^^^ 3988292384 : Nat) : Int) := u32_xor_nat r 3988292384 h (by decide)
theorem xorF (r : Nat) (h : r < 4294967296) : bits .xor .u32 (r : Int) 4294967295 = ((r ^^^ 4294967295 : Nat) : Int) := u32_xor_nat r 4294967295 h (by decide)
theorem qlE (r : Nat) (h : r < 4294967296) : bits .xor .u32 IntKind.u32.max (r : Int) = ((r ^^^ 4294967295 : Nat) : Int) := by
 rw [Nat.xor_comm]; exact u32_xor_nat 4294967295 r (by decide) h
theorem qi7 (c : Nat) (w : World) (h : c < 4294967296) : Calls Tryz.prog 181 #[.int .u32 (c : Int)] w fun e w' => e = .returned (.int .u32 ((bitsN 8 c : Nat) : Int)) /\ w = w' := by
 go_enter Tryz.func181,Tryz.ntmps181
 go_wp2
 go_loop [0,4] (fun r i => ∃ k : Nat,k <= 8 /\ i = .int .i64 (k : Int) /\ r = .int .u32 ((bitsN k c : Nat) : Int)) (fun _ i => 8 - (intOf i).toNat)
 case atStart => exact ⟨0,by omega,rfl,rfl⟩
 case round =>
  obtain ⟨k,hk,rfl,rfl⟩ := hrel
  have hr := qeB k c h
  have hs : bitsN (k + 1) c = bit1 (bitsN k c) := rfl
  have HS : Hid (bitsN (k + 1) c = bit1 (bitsN k c)) := ⟨hs⟩
  clear hs
  by_cases hlt : k < 8
  · have ha := and1 _ hr
    generalize hq : bitsN k c = q at *
    clear hq
    by_cases hm : q % 2 = 1
    · have hx := xorP (q / 2) (by omega)
      rw [hm] at ha
      have e2 : ((q / 2 : Nat) : Int) = (q : Int) / 2 := by omega
      rw [e2] at hx
      go_wp2
      go_round
      case rel => exact ⟨k + 1,by omega,by go_num,by rw [HS.out,bit1,if_pos hm]⟩
      case measure => simp [intOf]; omega
    · have hm0 : q % 2 = 0 := by omega
      rw [hm0] at ha
      have e2 : ((q / 2 : Nat) : Int) = (q : Int) / 2 := by omega
      go_wp2
      go_round
      case rel => exact ⟨k + 1,by omega,by go_num,by rw [HS.out,bit1,if_neg hm,e2]⟩
      case measure => simp [intOf]; omega
  · obtain rfl : k = 8 := by omega
    go_wp2
    go_ret
    exact ⟨rfl,rfl⟩
end Go.Proofs.YtmeoooojmhhahaaGreat
namespace Go.Proofs.YtmeoooojmhhahaaGreat
open Go.RowKit
theorem take_one (l : List UInt8) (k : Nat) (h : k < l.length) : l.take (k + 1) = l.take k ++ [l[k]] := by
 rw [List.take_succ_eq_append_getElem h]
theorem qhj (l : List UInt8) (k : Nat) (c : Nat) (h : k < l.length) : qag (l.take (k + 1)) c = bitsN 8 (qag (l.take k) c ^^^ (l[k]).toNat) := by
 rw [take_one l k h,qiC]; rfl
theorem qep (s : Nat) (A : Option Addr) (len cap : Nat) (l : List UInt8) (w : World) (h : s < 4294967296) (hl : Lies w A len cap l) (hm : len <= maxLen) :
 Calls Tryz.prog 168 #[.int .u32 (s : Int), .slice A len cap] w fun e w' => e = .returned (.int .u32 ((moreN s l : Nat) : Int)) /\ w = w' := by
 unfold maxLen at hm
 have hx := qlE s h
 have hc0 := qco s 4294967295 h (by decide)
 have HM : Hid (moreN s l = qag l (s ^^^ 4294967295) ^^^ 4294967295) := ⟨rfl⟩
 generalize hc : s ^^^ 4294967295 = c at hx hc0 HM
 generalize moreN s l = m at HM ⊢
 clear hc
 go_enter Tryz.func168,Tryz.ntmps168
 go_wp2
 clear hx
 go_loop [5,12] (fun r i => ∃ k : Nat,k <= len /\ i = .int .i64 (k : Int) /\ r = .int .u32 ((qag (l.take k) c : Nat) : Int)) (fun _ i => len - (intOf i).toNat)
 case atStart => exact ⟨0,by omega,rfl,rfl⟩
 case round =>
  obtain ⟨k,hk,rfl,rfl⟩ := hrel
  have hr := qeC (l.take k) c hc0
  have hll := hl.1
  by_cases hlt : k < len
  · have HS := qhj l k c (by omega)
    obtain ⟨g,off,rfl,_,hcell⟩ := hl.cell k (by omega)
    have hb := (l[k]).toNat_lt
    generalize l[k] = b at *
    have hx := u32_xor_nat (qag (l.take k) c) b.toNat hr (by omega)
    have HS2 : Hid (qag (l.take (k + 1)) c = bitsN 8 (qag (l.take k) c ^^^ b.toNat)) := ⟨HS⟩
    have hr2 := qco _ b.toNat hr (by omega)
    have hb0 : (b.toNat : Int) % 4294967296 = (b.toNat : Int) := by omega
    have hb1 : (b.toNat : Int) <= 255 := by omega
    clear HS hll
    generalize qag (l.take k) c = q at *
    go_wp2_with (go_at_call 181; refine (qi7 _ _ hr2).mono ?_; rintro e w2 ⟨rfl,rfl⟩)
    go_round
    case rel => exact ⟨k + 1,by omega,by go_num,by rw [HS2.out]⟩
    case measure => simp [intOf]; omega
  · obtain rfl : k = len := by omega
    have hq : Hid (qag (l.take k) c = qag l c) := ⟨by rw [List.take_of_length_le (by omega)]⟩
    have hx := qlE _ hr
    clear hll
    go_wp2
    go_ret
    exact ⟨by rw [HM.out,hq.out]; rfl,rfl⟩
theorem qkc (A : Option Addr) (len cap : Nat) (l : List UInt8) (w : World) (hl : Lies w A len cap l) (hm : len <= maxLen) :
 Calls Tryz.prog 169 #[.slice A len cap] w fun e w' => e = .returned (.int .u32 ((moreN 0 l : Nat) : Int)) /\ w = w' := by
 have hC := fun w hl => qep 0 A len cap l w (by decide) hl hm
 generalize moreN 0 l = m at hC ⊢
 go_enter Tryz.func169,Tryz.ntmps169
 go_wp2_with (go_at_call 168; refine (hC _ hl).mono ?_; rintro e w2 ⟨rfl,rfl⟩)
 go_ret
 exact ⟨rfl,rfl⟩
end Go.Proofs.YtmeoooojmhhahaaGreat
namespace Go.Proofs.YtmeoooojmhhahaaGreat
open Go.RowKit
def Rec1 (w : World) (Z : Nat -> Prop) (v : Value) (l : List UInt8) : Prop :=
 ∃ E c,v = .slice E l.length c /\ c <= maxLen /\ Lies w E l.length c l /\ (0 < l.length -> ∀ g off,E = some ⟨g,off,none⟩ -> Z g)
def Recs (w : World) (Z : Nat -> Prop) (A : Option Addr) (len cap : Nat) (ls : List (List UInt8)) : Prop :=
 ls.length = len /\ len <= cap /\ (A = none -> cap = 0) /\ (0 < len -> ∃ g off,A = some ⟨g,off,none⟩ /\ g < w.heap.size /\ Z g ∧
  ∀ j (hj : j < ls.length),∃ v,w.cell? ⟨g,off + j,none⟩ = some v /\ Rec1 w Z v ls[j])
section
variable {w w' : World} {Z Z' : Nat → Prop} {v : Value} {l : List UInt8} {A : Option Addr} {len cap : Nat} {ls : List (List UInt8)}
theorem Rec1.keep (h : Rec1 w Z v l) (hs : w.heap.size <= w'.heap.size) (hk : ∀ k,k < w.heap.size -> Z k -> w'.heap[k]? = w.heap[k]?) : Rec1 w' Z v l := by
 obtain ⟨E,c,e,hc,hl,hz⟩ := h
 exact ⟨E,c,e,hc,hl.keep hs fun h0 g off e hg => hk g hg (hz h0 g off e),hz⟩
theorem Rec1.mono (h : Rec1 w Z v l) (hz : ∀ k,Z k -> Z' k) : Rec1 w Z' v l := by
 obtain ⟨E,c,e,hc,hl,hz'⟩ := h
 exact ⟨E,c,e,hc,hl,fun h0 g off e => hz _ (hz' h0 g off e)⟩
theorem Recs.keep (h : Recs w Z A len cap ls) (hs : w.heap.size <= w'.heap.size) (hk : ∀ k,k < w.heap.size -> Z k -> w'.heap[k]? = w.heap[k]?) : Recs w' Z A len cap ls := by
 refine ⟨h.1,h.2.1,h.2.2.1,fun h0 => ?_⟩
 obtain ⟨g,off,e,hg,hz,hc⟩ := h.2.2.2 h0
 refine ⟨g,off,e,Nat.lt_of_lt_of_le hg hs,hz,fun j hj => ?_⟩
 obtain ⟨v,hv,hr⟩ := hc j hj
 exact ⟨v,(World.cell?_of_block (w := w) (hk g hg hz)).trans hv,hr.keep hs hk⟩
theorem Recs.mono (h : Recs w Z A len cap ls) (hz : ∀ k,Z k -> Z' k) : Recs w Z' A len cap ls := by
 refine ⟨h.1,h.2.1,h.2.2.1,fun h0 => ?_⟩
 obtain ⟨g,off,e,hg,hz',hc⟩ := h.2.2.2 h0
 refine ⟨g,off,e,hg,hz _ hz',fun j hj => ?_⟩
 obtain ⟨v,hv,hr⟩ := hc j hj
 exact ⟨v,hv,hr.mono hz⟩
theorem Recs.below (h : Recs w Z A len cap ls) {B : Nat} (hb : Below B w w') (hB : w.heap.size <= B) : Recs w' Z A len cap ls :=
 h.keep hb.size fun k hk _ => hb.block k (Nat.lt_of_lt_of_le hk hB)
theorem Recs.keeps (h : Recs w Z A len cap ls) {Y : Nat -> Prop} (hk : qc Y w w') (hz : ∀ k,Z k -> Y k) : Recs w' Z A len cap ls :=
 h.keep hk.size fun k hk' hz' => hk.block k hk' (hz k hz')
theorem Recs.nil (w : World) (Z : Nat -> Prop) : Recs w Z none 0 0 [] := ⟨rfl,nlq,fun _ => rfl,fun h => absurd h (by omega)⟩
theorem Recs.at_ (h : Recs w Z A len cap ls) (j : Nat) (hj : j < len) : ∃ g off E c,A = some ⟨g,off,none⟩ /\ g < w.heap.size /\ Z g /\ w.cell? ⟨g,off + j,none⟩ = some (.slice E (ls[j]'(by rw [h.1]; exact hj)).length c) /\ c <= maxLen ∧
 Lies w E (ls[j]'(by rw [h.1]; exact hj)).length c (ls[j]'(by rw [h.1]; exact hj)) := by
 obtain ⟨g,off,e,hg,hz,hc⟩ := h.2.2.2 (by omega)
 obtain ⟨v,hv,E,c,rfl,hm,hl,_⟩ := hc j (by rw [h.1]; exact hj)
 exact ⟨g,off,E,c,e,hg,hz,hv,hm,hl⟩
theorem Recs.one (w : World) (Z : Nat -> Prop) (E : Option Addr) (n c : Nat) (l : List UInt8) (T : TypeId) (fr : Nat × Nat) (hn : n = l.length) (hc : c <= maxLen) (h : Lies w E n c l) (hz : 0 < n -> ∀ g off,E = some ⟨g,off,none⟩ -> Z g) (hZ : Z w.heap.size) :
 Recs (w.alloc (.cells #[.slice E n c] T fr)) Z (some ⟨w.heap.size,0,none⟩) 1 1 [l] := by
 subst hn
 refine ⟨rfl,nlq,(fun h => by cases h),fun _ => ⟨w.heap.size,0,rfl,by simp,hZ,fun j hj => ?_⟩⟩
 obtain rfl : j = 0 := by simpa using hj
 refine ⟨_,(cell_of_row _ _ _ _ _ _ (heap_alloc_new w _)).trans rfl,E,c,rfl,hc,h.below ((Below.refl w.heap.size w).alloc nlq _) nlq,hz⟩
end
theorem qa4 (l : List (List UInt8)) (h : fit l) : (framesL l).length <= l.length * 60008 := by
 induction l with
 | nil => simp [framesL]
 | cons r l ih =>
   obtain ⟨h1,h2⟩ := qkH h
   have := ih h2
   rw [qa7,List.length_append,qu,List.length_cons]
   omega
theorem qdU (l : List (List UInt8)) (k : Nat) (h : k < l.length) : framesL (l.take (k + 1)) = framesL (l.take k) ++ frameL l[k] := by
 rw [List.take_succ_eq_append_getElem h,qek]
 simp [framesL]
theorem qeU {l : List (List UInt8)} (h : fit l) (k : Nat) : fit (l.take k) := fun r hr => h r (List.mem_of_mem_take hr)
theorem qhk {l : List (List UInt8)} (h : fit l) (k : Nat) (hk : k < l.length) : l[k].length <= 60000 := h _ (List.getElem_mem hk)
instance (l : List (List UInt8)) : Decidable (fit l) := by unfold fit; infer_instance
end Go.Proofs.YtmeoooojmhhahaaGreat
namespace Go.Proofs.YtmeoooojmhhahaaGreat
open Go.RowKit
theorem qlh (w : World) (l : List UInt8) (C : Array Value) (T : TypeId) (fr : Nat × Nat) (n : Nat) (hn : l.length = n) (h : ∀ j (hj : j < l.length),C[j]? = some (u8 l[j])) : Lies (w.alloc (.cells C T fr)) (some ⟨w.heap.size,0,none⟩) n n l := by
 refine ⟨hn,nlq,(fun h => by cases h),fun _ => ⟨w.heap.size,0,rfl,by simp,fun j hj => ?_⟩⟩
 rw [cell_of_row _ _ _ _ _ _ (heap_alloc_new w _),Nat.zero_add]
 exact h j hj
theorem qkd (x : Nat) (b : UInt8) (hx : x < 16777216) : bits BinOp.or IntKind.u32 ((x : Int) * 256) ((b.toNat : Int) % 4294967296) = ((x * 256 + b.toNat : Nat) : Int) := by
 have hb : b.toNat < 256 := b.toNat_lt
 rw [show (b.toNat : Int) % 4294967296 = (b.toNat : Int) by omega]
 rw [bits_join .u32 32 (by decide) (fun m h0 h1 => IntWalk.u32_in _ (by omega)) 8 _ _ (by omega) (by omega) (by omega) (by omega) (by omega) (by omega)]
 omega
theorem qeq (A : Option Addr) (len cap : Nat) (l : List UInt8) (w : World) (hl : Lies w A len cap l) (h4 : len <= 4) :
 Calls Tryz.prog 161 #[.slice A len cap] w fun e w' => e = .returned (.int .u32 ((num l : Nat) : Int)) /\ w = w' := by
 go_enter Tryz.func161,Tryz.ntmps161
 go_wp2
 go_loop [3,8] (fun r i => ∃ k : Nat,k <= len /\ i = .int .i64 (k : Int) /\ r = .int .u32 ((num (l.take k) : Nat) : Int)) (fun _ i => len - (intOf i).toNat)
 case atStart => exact ⟨0,by omega,rfl,by simp [num]⟩
 case round =>
  obtain ⟨k,hk,rfl,rfl⟩ := hrel
  have hll := hl.1
  by_cases hlt : k < len
  · obtain ⟨g,off,rfl,_,hcell⟩ := hl.cell k (by omega)
    have hx : num (l.take k) < 16777216 := by
     have h1 := qdc (l.take k)
     have h2 : 256 ^ (l.take k).length <= 256 ^ 3 := Nat.pow_le_pow_right (by omega) (by simp; omega)
     have h3 : (256 : Nat) ^ 3 = 16777216 := by decide
     omega
    have hor := qkd (num (l.take k)) l[k] hx
    have hnx : num (l.take k) * 256 + l[k].toNat = num (l.take (k + 1)) := by rw [take_one l k (by omega),qeA]
    rw [hnx] at hor
    clear hnx
    generalize l[k] = b at *
    obtain ⟨y,hy⟩ : ∃ y,Hid (num (l.take (k + 1)) = y) := ⟨_,⟨rfl⟩⟩
    rw [hy.out] at hor
    generalize num (l.take k) = x at *
    go_wp2
    go_round
    case rel => exact ⟨k + 1,by omega,by go_num,by rw [hy.out]⟩
    case measure => simp [intOf]; omega
  · obtain rfl : k = len := by omega
    have hq : Hid (num (l.take k) = num l) := ⟨by rw [List.take_of_length_le (by omega)]⟩
    go_wp2
    go_ret
    exact ⟨by first | rfl | (rw [<- hq.out]; rfl),rfl⟩
theorem qhl (A B : Option Addr) (la ca lb cb : Nat) (l r : List UInt8) (w : World) (hl : Lies w A la ca l) (hr : Lies w B lb cb r) (h1 : la <= maxLen) (h2 : lb <= maxLen) :
 Calls Tryz.prog 149 #[.slice A la ca, .slice B lb cb] w fun e w' => e = .returned (.int .u32 ((moreN (moreN 0 l) r : Nat) : Int)) /\ w = w' := by
 have hO := qkc A la ca l w hl h1
 have hlt := qbt 0 l (by omega)
 generalize moreN 0 l = q at *
 have hM := qep q B lb cb r w hlt hr h2
 generalize moreN q r = q2 at *
 go_enter Tryz.func149,Tryz.ntmps149
 go_wp2_with (first
  | (go_at_call 169; refine hO.mono ?_; rintro e w1 ⟨rfl,rfl⟩)
  | (go_at_call 168; refine hM.mono ?_; rintro e w1 ⟨rfl,rfl⟩))
 go_ret
 exact ⟨rfl,rfl⟩
theorem qhm (v : Nat) (hv : v < 4294967296) (w : World) :
 Calls Tryz.prog 148 #[.int .u32 (v : Int)] w fun e w' => ∃ g,e = .returned (.slice (some ⟨g,0,none⟩) 4 4) /\ Lies w' (some ⟨g,0,none⟩) 4 4 (wide v 4) /\ w.heap.size <= g /\ Below w.heap.size w w' := by
 go_enter Tryz.func148,Tryz.ntmps148
 go_wp2
 go_ret
 refine ⟨w.heap.size,rfl,qlh w (wide v 4) _ _ _ 4 (by simp) (fun j hj => ?_),nlq,blq.alloc nlq _⟩
 have hj4 : j < 4 := by simpa using hj
 have e : wide v 4 = [UInt8.ofNat (v / 16777216),UInt8.ofNat (v / 65536),UInt8.ofNat (v / 256),UInt8.ofNat v] := by simp [wide]
 have c : ∀ z : Nat,((UInt8.ofNat z).toNat : Int) = (z : Int) % 256 := fun z => by simp
 have d : (v : Int) / 16777216 % 256 = (v : Int) / 16777216 := by omega
 have c0 := c (v / 16777216)
 have c1 := c (v / 65536)
 have c2 := c (v / 256)
 have c3 := c v
 simp only [e]
 match j,hj4 with
 | 0,_ => simp only [List.getElem_cons_zero,u8,c0]; rw [<- d]; rfl
 | 1,_ => simp only [List.getElem_cons_succ,List.getElem_cons_zero,u8,c1]; rfl
 | 2,_ => simp only [List.getElem_cons_succ,List.getElem_cons_zero,u8,c2]; rfl
 | 3,_ => simp only [List.getElem_cons_succ,List.getElem_cons_zero,u8,c3]; rfl
end Go.Proofs.YtmeoooojmhhahaaGreat
namespace Go.Proofs.YtmeoooojmhhahaaGreat
open Go.RowKit
theorem qfn {P : Program} {t e : TypeId} (ht : P.underlying t = some (.slice e)) (hz : ∀ w,(Go.sizeOf e).run P w = .ok 1 w) (kd : IntKind) (A : Option Addr) (len cap n : Nat) (hn : n <= cap) (W : World) :
 (Instr.slice t (.slice A len cap) none (some (.int kd (n : Int))) none).run P W = .ok (.slice A n cap) W := by
 have ht' : P.underlying t = some (.slice (P.elem t)) := by simp [Program.elem,ht]
 have he : P.elem t = e := by simp [Program.elem,ht]
 rw [run_slice_h W t _ _ _ ht' kd _ (by omega) (by omega),he,hz]
 cases A <;> simp [Result.andThen,sliced,Addr.add]
theorem qlQ {P : Program} {t e : TypeId} (ht : P.underlying t = some (.slice e)) (hz : ∀ w,(Go.sizeOf e).run P w = .ok 1 w) (A : Option Addr) (len cap a b : Nat) (h1 : a <= b) (h2 : b <= cap) (W : World) :
 (Instr.slice t (.slice A len cap) (some (.int .i64 (a : Int))) (some (.int .i64 (b : Int))) none).run P W = .ok (.slice (qK A cap a) (b - a) (cap - a)) W := by
 have ht' : P.underlying t = some (.slice (P.elem t)) := by simp [Program.elem,ht]
 have he : P.elem t = e := by simp [Program.elem,ht]
 rw [run_slice_lh W t _ _ _ ht' .i64 .i64 _ _ (by omega) (by omega) (by omega),he,hz]
 cases A <;> simp [Result.andThen,sliced,qK] <;> (split <;> simp_all)
theorem qi8 {A : Option Addr} {cap n : Nat} {a : Addr} (h : qK A cap n = some a) : ∃ b,A = some b /\ b.block = a.block := by
 unfold qK at h
 split at h
 · exact ⟨a,h,rfl⟩
 · cases A with
   | none => cases h
   | some b =>
     injection h with h
     subst h
     refine ⟨b,rfl,?_⟩
     unfold Addr.add
     split <;> rfl
def qhn (l : List UInt8) (A : Option Addr) (w : World) (e : Ending) : Prop :=
 (qS l = none /\ e = .returned (.tuple #[.slice none 0 0, .bool false])) ∨
 ∃ r B c,qS l = some r /\ e = .returned (.tuple #[.slice B r.length c, .bool true]) /\ Lies w B r.length c r /\ ∀ b,B = some b -> ∃ a,A = some a /\ a.block = b.block
theorem qhn.no {l : List UInt8} {A : Option Addr} {w : World} (h : qS l = none) : qhn l A w (.returned (.tuple #[.slice none 0 0, .bool false])) := .inl ⟨h,rfl⟩
theorem qho (A : Option Addr) (len cap : Nat) (l : List UInt8) (w : World) (hl : Lies w A len cap l) (hm : len <= 1000000000) :
 Calls Tryz.prog 135 #[.slice A len cap] w fun e w' => qhn l A w' e /\ Below w.heap.size w w' := by
 have hll := hl.1
 have hlc := hl.2.1
 by_cases h8 : len < 8
 · have HE := Lib.hid (qgR l (by omega))
   clear hl
   go_enter Tryz.func135,Tryz.ntmps135
   go_wp2
   refine bodyPost_ret (results_tmp2 rfl _ _ _) rfl ?_
   exact ⟨.no HE,by first | exact blq | exact below_drewN blq _⟩
 · obtain ⟨m,hm8⟩ : ∃ m,len = 8 + m := ⟨len - 8,by omega⟩
   obtain ⟨c8,hc8⟩ : ∃ c,cap = 8 + c := ⟨cap - 8,by omega⟩
   obtain ⟨c4,hc4⟩ : ∃ c,cap = 4 + c := ⟨cap - 4,by omega⟩
   have hl4 := hl.take 4 (by omega)
   have hl8 := hl.drop 8 (by omega)
   have hl44 := (hl.drop 4 (by omega)).take 4 (by omega)
   have s1 := fun W => qfn (P := Tryz.prog) Tryz.underlying33 qaD .i64 A len cap 4 (by omega) W
   have s2 := fun W => qcq (P := Tryz.prog) Tryz.underlying33 qaD A len cap 8 (by omega) (by omega) W
   have s3 := fun W => qlQ (P := Tryz.prog) Tryz.underlying33 qaD A len cap 4 8 (by omega) (by omega) W
   have hA8 : ∀ b,qK A cap 8 = some b -> ∃ a,A = some a /\ a.block = b.block := fun b h => qi8 h
   rw [show len - 8 = m by omega,show cap - 8 = c8 by omega] at s2 hl8
   rw [show cap - 4 = c4 by omega] at s3 hl44
   have e84 : (8 : Nat) - 4 = 4 := rfl
   rw [e84] at s3
   generalize qK A cap 8 = A8 at s2 hl8 hA8
   generalize qK A cap 4 = A4 at s3 hl44
   change ∀ W,(Instr.slice 33 (.slice A len cap) none (some (.int .i64 4)) none).run Tryz.prog W = .ok (.slice A 4 cap) W at s1
   change ∀ W,(Instr.slice 33 (.slice A len cap) (some (.int .i64 8)) none none).run Tryz.prog W = .ok (.slice A8 m c8) W at s2
   change ∀ W,(Instr.slice 33 (.slice A len cap) (some (.int .i64 4)) (some (.int .i64 8)) none).run Tryz.prog W = .ok (.slice A4 4 c4) W at s3
   have hd8 : ((len : Int) < 8) = False := eq_false (by omega)
   have hN1 := fun nq => qeq A 4 _ _ (w.drewN nq) (hl4.below (below_drewN (Below.refl w.heap.size w) nq) nlq) (by omega)
   have hN2 := fun nq => qeq A4 4 _ _ (w.drewN nq) (hl44.below (below_drewN (Below.refl w.heap.size w) nq) nlq) (by omega)
   obtain ⟨n,hn⟩ : ∃ n,Hid (num (l.take 4) = n) := ⟨_,⟨rfl⟩⟩
   rw [hn.out] at hN1
   have hnlt : n < 4294967296 := by
    have := qdc (l.take 4)
    have e : (l.take 4).length = 4 := hl4.1
    rw [e,hn.out] at this
    exact this
   have hnlt' : (n : Int) < 4294967296 := by omega
   clear e84
   by_cases h6 : 60000 < n
   · have h6' : (60000 : Int) < (n : Int) := by omega
     have HE := Lib.hid (qfW l n hn.out (.inl h6))
     clear hl hl4 hl8 hl44 hA8 hn hN2 s3 hm8 hc8 hc4 h8 hll hlc hm hnlt h6
     go_enter Tryz.func135,Tryz.ntmps135
     go_wp2
     go_quiet (fail)
     go_wp2_with (first | (go_at_call 161; refine (hN1 _).mono ?_; rintro e w1 ⟨rfl,rfl⟩) | fail)
     refine bodyPost_ret (results_tmp2 rfl _ _ _) rfl ?_
     exact ⟨.no HE,by first | exact blq | exact below_drewN blq _⟩
   · have h6' : ((60000 : Int) < (n : Int)) = False := eq_false (by omega)
     have hcv : IntKind.i64.wrap (n : Int) = (n : Int) := IntWalk.i64_in _ (by omega)
     by_cases h7 : m < n
     · have h7' : (m : Int) < (n : Int) := by omega
       have HE := Lib.hid (qfW l n hn.out (.inr (by omega)))
       clear hl hl4 hl8 hl44 hA8 hn hN2 s3 h6 hm8 hc8 hc4 h8 hll hlc hm hnlt h7
       go_enter Tryz.func135,Tryz.ntmps135
       go_wp2
       go_quiet (fail)
       go_wp2_with (first | (go_at_call 161; refine (hN1 _).mono ?_; rintro e w1 ⟨rfl,rfl⟩) | fail)
       refine bodyPost_ret (results_tmp2 rfl _ _ _) rfl ?_
       exact ⟨.no HE,by first | exact blq | exact below_drewN blq _⟩
     · have h7' : ((m : Int) < (n : Int)) = False := eq_false (by omega)
       have s4 := fun W => qfn (P := Tryz.prog) Tryz.underlying33 qaD .u32 A8 m c8 n (by omega) W
       have hlr := hl8.take n (by omega)
       have hrl : ((l.drop 8).take n).length = n := hlr.1
       have hS := fun nq => qhl A A8 4 cap n c8 _ _ (w.drewN nq) (hl4.below (below_drewN (Below.refl w.heap.size w) nq) nlq) (hlr.below (below_drewN (Below.refl w.heap.size w) nq) nlq) (by unfold maxLen; omega) (by unfold maxLen; omega)
       have HI := Lib.hid (qkI l n hn.out (by omega) (by omega))
       generalize num ((l.drop 4).take 4) = p at hN2 HI
       generalize moreN (moreN 0 (l.take 4)) ((l.drop 8).take n) = q at hS HI
       have hLR := Lib.hid hlr
       clear hl hl4 hl8 hl44 hn h6 h7 hlr hll hlc hm8 hc8 hc4 h8 hm hnlt
       have HA8 := Lib.hid hA8
       clear hA8
       have HRL := Lib.hid hrl
       clear hrl
       by_cases hpq : p = q
       · have HE := Lib.hid (show qS l = some _ by rw [HI,if_pos hpq])
         clear HI
         subst hpq
         go_enter Tryz.func135,Tryz.ntmps135
         go_wp2
         go_quiet (fail)
         go_wp2_with fail
         refine (hN1 _).mono ?_
         rintro e w1 ⟨rfl,rfl⟩
         go_wp2_with fail
         refine (hN2 _).mono ?_
         rintro e w1 ⟨rfl,rfl⟩
         go_wp2_with fail
         refine (hS _).mono ?_
         rintro e w1 ⟨rfl,rfl⟩
         go_wp2
         refine bodyPost_ret (results_tmp2 rfl _ _ _) rfl ?_
         refine ⟨.inr ⟨_,A8,c8,HE,(by rw [HRL]; rfl),(by rw [HRL]; exact hLR.below (below_drewN (Below.refl w.heap.size w) _) nlq),HA8⟩,below_drewN blq _⟩
       · have HE := Lib.hid (show qS l = none by rw [HI,if_neg hpq])
         have hne : ((p : Int) = (q : Int)) = False := eq_false (by omega)
         have hne2 : ((p : Int) != (q : Int)) = true := by simp [hne]
         clear HI hpq
         go_enter Tryz.func135,Tryz.ntmps135
         go_wp2
         go_quiet (fail)
         go_wp2_with fail
         refine (hN1 _).mono ?_
         rintro e w1 ⟨rfl,rfl⟩
         go_wp2_with fail
         refine (hN2 _).mono ?_
         rintro e w1 ⟨rfl,rfl⟩
         go_wp2_with fail
         refine (hS _).mono ?_
         rintro e w1 ⟨rfl,rfl⟩
         go_wp2
         refine bodyPost_ret (results_tmp2 rfl _ _ _) rfl ?_
         exact ⟨.no HE,below_drewN blq _⟩
end Go.Proofs.YtmeoooojmhhahaaGreat
namespace Go.Proofs.YtmeoooojmhhahaaGreat
open Go.RowKit
theorem qcx {T : TypeId} {w : World} {base n cap : Nat} {A : Option Addr} {l : List UInt8} (h : Owns T w base (.slice A n cap) l) : cap <= maxLen := by
 rcases h.2 with ⟨e,h0⟩ | ⟨g,cap',cur,e,hb,hg,hc,hm,hs,ht⟩
 · injection e with e1 e2 e3
   subst e3
   exact Nat.zero_le _
 · injection e with e1 e2 e3
   subst e3
   exact hm
structure FrAt (w wr : World) (ls : List (List UInt8)) (k : Nat) (v : Value) : Prop where
 own : Owns 5 wr w.heap.size v (framesL (ls.take k))
 below : Below w.heap.size w wr
theorem qdv (Z : Nat -> Prop) (A : Option Addr) (len cap : Nat) (ls : List (List UInt8)) (w : World) (h : Recs w Z A len cap ls) (hm : len <= 1000000) (hf : fit ls) :
 Calls Tryz.prog 110 #[.slice A len cap] w fun e w' => ∃ A' cap',e = .returned (.tuple #[.slice A' (framesL ls).length cap', .int .i64 0]) /\ Owns 5 w' w.heap.size (.slice A' (framesL ls).length cap') (framesL ls) /\ Below w.heap.size w w' := by
 have hll := h.1
 have hfl := qa4 ls hf
 obtain ⟨i0,hi0,hz0,hz1,hz2⟩ := info_parts qaM
 have hmk : ∀ (w1 : World) (n : Nat),n <= 100000000000 -> (Instr.makeSlice 33 (.int .i64 0) (.int .i64 (n : Int))).run Tryz.prog w1 = .ok (.slice (some ⟨w1.heap.size,0,none⟩) 0 n) (w1.alloc (.cells (madeCells #[.int .u8 0] (n * 1)) 5)) := fun w1 n hn => by
  have := run_make (P := Tryz.prog) w1 33 5 i0 _ Tryz.underlying33 hi0 hz0 .i64 .i64 0 (n : Int) (Int.le_refl _) (by omega) (by rw [hz2]; omega) (by omega)
  rw [hz1] at this
  exact this
 have HF := Lib.hid hf
 clear hf
 go_enter Tryz.func110,Tryz.ntmps110
 go_wp2
 go_loop [4,6,13] (fun s r i => ∃ k : Nat,k <= len /\ i = .int .i64 (k : Int) /\ s = .int .i64 (((framesL (ls.take k)).length : Nat) : Int)) (fun _ _ i => len - (intOf i).toNat)
 case atStart => exact ⟨0,by omega,rfl,by simp [framesL]⟩
 case round =>
  obtain ⟨k,hk,rfl,rfl⟩ := hrel
  by_cases hlt : k < len
  · have hlt' : (k : Int) < (len : Int) := by omega
    obtain ⟨g,off,E,c,rfl,hg,_,hcell,hc,hl⟩ := h.at_ k hlt
    have h60 := qhk HF k (by omega)
    have hft := qa4 _ (qeU HF k)
    have hnx : (framesL (ls.take (k + 1))).length = (framesL (ls.take k)).length + (8 + (ls[k]'(by omega)).length) := by
     rw [qdU ls k (by omega),List.length_append,qu]; omega
    rw [List.length_take] at hft
    generalize (framesL (ls.take k)).length = z at *
    obtain ⟨z2,hz2e⟩ : ∃ z2,Hid ((framesL (ls.take (k + 1))).length = z2) := ⟨_,⟨rfl⟩⟩
    rw [hz2e.out] at hnx
    generalize (ls[k]'(by omega)).length = n at *
    have hlong' : ((60000 : Int) < (n : Int)) = False := eq_false (by omega)
    have e1 : IntKind.i64.wrap (8 + (n : Int)) = ((8 + n : Nat) : Int) := by rw [IntWalk.i64_in _ (by omega)]; omega
    have e2 : IntKind.i64.wrap ((z : Int) + ((8 + n : Nat) : Int)) = ((z + (8 + n) : Nat) : Int) := by rw [IntWalk.i64_in _ (by omega)]; omega
    have e3 : IntKind.i64.wrap ((k : Int) + 1) = ((k + 1 : Nat) : Int) := by rw [IntWalk.i64_in _ (by omega)]; omega
    generalize 8 + n = n8 at *
    rw [<- hnx] at e2
    clear hl hft hnx h60 hc hll h hfl hmk
    go_wp2
    go_round
    case rel => exact ⟨k + 1,by omega,by go_num,by rw [hz2e.out]⟩
    case measure => simp [intOf]; omega
  · obtain rfl : k = len := by omega
    have htk : ls.take k = ls := List.take_of_length_le (by omega)
    rw [htk]
    have hmk2 := fun w1 => hmk w1 (framesL ls).length (by omega)
    have hown := World.ownsRow_made (base := w.heap.size) (e := 5) (size := 1) w (madeCells #[.int .u8 0] ((framesL ls).length * 1)) (framesL ls).length nlq (by unfold maxLen; omega) (size_madeCells _ _)
    have hst : FrAt w (w.alloc (.cells (madeCells #[.int .u8 0] ((framesL ls).length * 1)) 5)) ls 0 (.slice (some ⟨w.heap.size,0,none⟩) 0 (framesL ls).length) :=
     ⟨by simpa [framesL,Owns] using hown,blq.alloc nlq _⟩
    have hNE : (framesL ls).length <= 100000000000 := by omega
    generalize hNl : (framesL ls).length = N at *
    have HNL := Lib.hid hNl
    have HST := Lib.hid hst
    clear hNl hown hmk htk hfl hst
    go_wp2
    go_loopg [7,9,10,30] k (fun g v r y i wr => ∃ j : Nat,j + g = k /\ i = .int .i64 (j : Int) /\ FrAt w wr ls j v)
    case atStart => exact ⟨0,by omega,rfl,by have h0 : FrAt _ _ _ _ _ := HST; rw [Nat.mul_one] at h0; exact h0⟩
    case round =>
     obtain ⟨j,hj,rfl,hfr⟩ := hrel
     clear hmk2 HST
     by_cases hlt2 : j < k
     · have hlt' : (j : Int) < (k : Int) := by omega
       obtain ⟨g,off,E,c,rfl,hg,_,hcell,hc,hl⟩ := h.at_ j hlt2
       have h60 := qhk HF j (by omega)
       have hHr := fun wx (hb : Below w.heap.size w wx) => hl.below hb nlq
       have hcell2 := (World.cell?_of_block (w := w) (a := ⟨g,off + j,none⟩) (hfr.below.block g hg)).trans hcell
       have hfx := qdU ls j (by omega)
       have hbnd := qa4 _ (qeU HF (j + 1))
       have hbnd0 := qa4 _ (qeU HF j)
       rw [List.length_take] at hbnd hbnd0
       generalize (ls[j]'(by omega)) = r at *
       have hbw := hfr.below
       have hs0 := hfr.below.size
       have hown := hfr.own
       obtain ⟨f,hfe⟩ : ∃ f,framesL (ls.take j) = f := ⟨_,rfl⟩
       obtain ⟨f2,hf2⟩ : ∃ f2,framesL (ls.take (j + 1)) = f2 := ⟨_,rfl⟩
       rw [hfe] at hown hfx hbnd0
       rw [hf2] at hfx hbnd
       obtain ⟨A0,cap0,rfl,_,_⟩ := qq hown
       have HF2 := Lib.hid hf2
       clear hfe hf2
       obtain ⟨n,hn⟩ : ∃ n,Hid (r.length = n) := ⟨_,⟨rfl⟩⟩
       have hrn := hn.out
       rw [hrn] at hcell2 hHr h60
       have hcv : (n : Int) % 4294967296 = (n : Int) := by omega
       have hcv2 : IntKind.u32.wrap (n : Int) = (n : Int) := IntWalk.u32_in _ (by omega)
       have hq1 := qbt 0 (wide n 4) (by omega)
       have hq2 := qbt (moreN 0 (wide n 4)) r hq1
       have hbl : f.length <= 100000000000 := by omega
       have HFX := Lib.hid (show f2 = f ++ (wide n 4 ++ (wide (moreN (moreN 0 (wide n 4)) r) 4 ++ r)) by rw [hfx]; unfold frameL sumL; rw [hrn])
       have e3 : IntKind.i64.wrap ((j : Int) + 1) = ((j + 1 : Nat) : Int) := by rw [IntWalk.i64_in _ (by omega)]; omega
       have HJ := Lib.hid hj
       have HLT := Lib.hid hlt2
       have H60 := Lib.hid h60
       clear hfr h hfx hrn hcell hbnd hbnd0 hj hlt2 h60 hll hNE hm hl
       go_wp2_with fail
       refine (qhm n (by have : n <= 60000 := H60; omega) _).mono ?_
       rintro e w1 ⟨g1,rfl,hl1,hg1,hb1⟩
       have hbw1 : Below w.heap.size w w1 := hbw.trans (hb1.mono hs0)
       have hown1 : Owns 5 w1 w.heap.size (.slice A0 f.length cap0) f := hown.keep (fun q hq => hb1.block q (hown.lt q hq).2)
       go_wp2_with (first
        | (at_builtin; refine qan _ rfl _ _ 33 rfl 5 i0 Tryz.underlying33 hi0 hz0 hz1 hz2 w.heap.size hbw1.size (.slice A0 f.length cap0) f rfl hown1 (some ⟨g1,0,none⟩) 4 4 (wide n 4) rfl hl1 (by simp; omega) ?_
           intro v2 w2 ho2 hgr2 hat2)
        | fail)
       have hl2 : Lies w2 (some ⟨g1,0,none⟩) 4 4 (wide n 4) := hl1.grown hgr2 fun i hi h0 g off e hgi => by
        injection e with e
        injection e with e
        have h1 := (hown.lt i hi).2
        omega
       have hbw2 : Below w.heap.size w w2 := hbw1.grown hgr2 hbw1.size fun q hq => (hown.lt q hq).1
       go_wp2_with fail
       refine (qhl _ _ _ _ _ _ _ _ _ hl2 (hHr _ hbw2) (by unfold maxLen; omega) (by have : n <= 60000 := H60; unfold maxLen; omega)).mono ?_
       rintro e w3 ⟨rfl,rfl⟩
       go_wp2_with fail
       refine (qhm _ hq2 _).mono ?_
       rintro e w4 ⟨g4,rfl,hl4,hg4,hb4⟩
       have hbw4 : Below w.heap.size w w4 := hbw2.trans (hb4.mono hbw2.size)
       have hown4 : Owns 5 w4 w.heap.size v2 (f ++ wide n 4) := ho2.keep (fun q hq => hb4.block q (ho2.lt q hq).2)
       go_wp2_with (first
        | (at_builtin; refine qan _ rfl _ _ 33 rfl 5 i0 Tryz.underlying33 hi0 hz0 hz1 hz2 w.heap.size hbw4.size v2 _ rfl hown4 (some ⟨g4,0,none⟩) 4 4 _ rfl hl4 (by simp; omega) ?_
           intro v5 w5 ho5 hgr5 hat5
           have hbw5 : Below w.heap.size w w5 := hbw4.grown hgr5 hbw4.size fun q hq => (ho2.lt q hq).1
           have hE5 := hHr _ hbw5)
        | (at_builtin; refine qan _ rfl _ _ 33 rfl 5 i0 Tryz.underlying33 hi0 hz0 hz1 hz2 w.heap.size hbw5.size v5 _ rfl ho5 E n c r rfl hE5 (by have : n <= 60000 := H60; have := hn.out; simp; omega) ?_
           intro v6 w6 ho6 hgr6 hat6)
        | fail)
       have HR := Lib.hid (show FrAt w w6 ls (j + 1) v6 from ⟨by have e : framesL (ls.take (j + 1)) = f2 := HF2; rw [e]; have e2 : f2 = _ := HFX; rw [e2,<- List.append_assoc,<- List.append_assoc]; exact ho6,hbw5.grown hgr6 hbw5.size fun q hq => (ho5.lt q hq).1⟩)
       clear hHr hl1 hb1 hown1 ho2 hgr2 hat2 hl2 hb4 hl4 hown4 ho5 hgr5 hat5 hE5 ho6 hgr6 hat6 hown
       go_wp2
       go_roundg (gk - 1)
       case measure => have : j + gk = k := HJ; omega
       case rel => exact ⟨j + 1,by have : j + gk = k := HJ; have : j < k := HLT; omega,by go_num,HR⟩
     · obtain rfl : j = k := by omega
       have hfin := hfr.own
       have hbf := hfr.below
       rw [List.take_of_length_le (by omega)] at hfin
       obtain ⟨Af,capf,rfl,_,_⟩ := qq hfin
       have hdec : decide ((j : Int) < (j : Int)) = false := decide_eq_false (by omega)
       have HFIN := Lib.hid hfin
       clear hfr hfin h hll hNE hm hj
       go_wp2
       refine bodyPost_ret (results_tmp2 rfl _ _ _) rfl ?_
       refine ⟨Af,capf,by have e : (framesL ls).length = N := HNL; rw [<- e]; rfl,?_,hbf⟩
       exact HFIN
end Go.Proofs.YtmeoooojmhhahaaGreat
namespace Go.Proofs.YtmeoooojmhhahaaGreat
open Go.RowKit
theorem qke (A : Option Addr) (len cap : Nat) (l : List UInt8) (w : World) (hl : Lies w A len cap l) (hc : cap <= maxLen) (h6 : len <= 60000) :
 Calls Tryz.prog 114 #[.slice A len cap] w fun e w' => ∃ A' cap',e = .returned (.tuple #[.slice A' (l.length + 8) cap', .int .i64 0]) /\ Owns 5 w' w.heap.size (.slice A' (l.length + 8) cap') (frameL l) /\ Below w.heap.size w w' := by
 have hll := hl.1
 have hR := Recs.one w (fun _ => True) A len cap l 33 (0,0) hll.symm hc hl (fun _ _ _ _ => trivial) trivial
 have hF := qdv _ _ _ _ _ _ hR (by omega) (fun r hr => (List.mem_singleton.1 hr) ▸ (by omega))
 have e1 : framesL [l] = frameL l := by simp [framesL]
 rw [e1,qu] at hF
 clear hR
 go_enter Tryz.func114,Tryz.ntmps114
 go_wp2_with (first
  | (go_at_call 110
     refine hF.mono ?_
     rintro e w1 ⟨A1,cap1,rfl,ho,hb⟩)
  | fail)
 refine bodyPost_ret (results_tmp2 rfl _ _ _) rfl ?_
 refine ⟨A1,cap1,by rw [hll]; rfl,ho.rebase fun k hk => ?_,((Below.refl w.heap.size w).alloc nlq _).trans (hb.mono (by simp))⟩
 have := (ho.lt k hk).1
 simp at this
 omega
end Go.Proofs.YtmeoooojmhhahaaGreat
namespace Go.Proofs.YtmeoooojmhhahaaGreat
open Go.RowKit
theorem qdw : (Tryz.prog.info? 33).map (fun i => (i.zero,i.size,i.bytes)) = some (some (.slice none 0 0),1,24) := by kernel_rfl
theorem Told.step {l r : List UInt8} {k : Nat} {ls : List (List UInt8)} (h : Told l k ls) (hs : qS (l.drop k) = some r) : Told l (k + (8 + r.length)) (ls ++ [r]) := by
 obtain ⟨e,hr⟩ := qbd hs
 have hlen := congrArg List.length e
 rw [List.length_append,qu,List.length_drop] at hlen
 refine ⟨by have := h.le; omega,?_⟩
 rw [h.all,qb9 hs,List.drop_drop,List.append_assoc,List.singleton_append]
 have e1 : k + (r.length + 8) = k + (8 + r.length) := by omega
 rw [e1]
 congr 1
 omega
theorem Told.room {l r : List UInt8} {k : Nat} (hs : qS (l.drop k) = some r) : k + (8 + r.length) <= l.length /\ r.length <= 60000 := by
 obtain ⟨e,hr⟩ := qbd hs
 have hlen := congrArg List.length e
 rw [List.length_append,qu,List.length_drop] at hlen
 omega
def qm (w : World) (B : Nat) (v : Value) (ts : List (List UInt8)) : Prop :=
 ∃ vs,w.ownsRow B 33 1 v ts.length vs /\ vs.length = ts.length /\ ∀ j (hj : j < ts.length),∃ e,vs[j]? = some e /\ Rec1 w (fun g => B <= g /\ v.ownBlock ≠ some g) e ts[j]
theorem qm.nil (w : World) (B : Nat) : qm w B (.slice none 0 0) [] := ⟨[],World.ownsRow_nil _ _ _ _,rfl,fun j hj => by simp at hj⟩
theorem qeV {w w' : World} {base : Nat} {e : TypeId} {size n : Nat} {v : Value} {xs : List Value} (h : w.ownsRow base e size v n xs) (hk : ∀ g,v.ownBlock = some g -> w'.heap[g]? = w.heap[g]?) : w'.ownsRow base e size v n xs := by
 rcases h.2 with ⟨e,h0⟩ | ⟨g,cap,cur,e,hb,hg,r⟩
 · exact ⟨h.1, .inl ⟨e,h0⟩⟩
 · exact ⟨h.1, .inr ⟨g,cap,cur,e,hb,(hk g (by rw [e]; rfl)).trans hg,r⟩⟩
theorem qm.below {w w' : World} {B : Nat} {v : Value} {ts : List (List UInt8)} (h : qm w B v ts) (hb : Below w.heap.size w w') : qm w' B v ts := by
 obtain ⟨vs,ho,hl,he⟩ := h
 refine ⟨vs,qeV ho fun g hg => hb.block g (ho.lt g hg).2,hl,fun j hj => ?_⟩
 obtain ⟨e,h1,h2⟩ := he j hj
 exact ⟨e,h1,h2.keep hb.size fun k hk _ => hb.block k hk⟩
theorem qm.form {w : World} {B : Nat} {v : Value} {ts : List (List UInt8)} (h : qm w B v ts) : ∃ A cap,v = .slice A ts.length cap := by
 obtain ⟨vs,ho,hl,he⟩ := h
 rcases ho.2 with ⟨rfl,h0⟩ | ⟨g,cap,cur,rfl,_⟩
 · exact ⟨none,0,by rw [h0]⟩
 · exact ⟨_,_,rfl⟩
theorem qm.recs {w : World} {B : Nat} {A : Option Addr} {n cap : Nat} {ts : List (List UInt8)} (h : qm w B (.slice A n cap) ts) : Recs w (B <= ·) A ts.length cap ts := by
 obtain ⟨vs,ho,hl,he⟩ := h
 rcases ho.2 with ⟨e,h0⟩ | ⟨g,cap',cur,e,hb,hg,hc,hm,hs,ht⟩
 · injection e with e1 e2 e3
   subst e1 e3
   exact ⟨rfl,by omega,fun _ => rfl,fun h => by omega⟩
 · injection e with e1 e2 e3
   subst e1 e3
   refine ⟨rfl,by omega,(fun h => by cases h),fun h0 => ⟨g,0,rfl,hlt hg,hb,fun j hj => ?_⟩⟩
   obtain ⟨e,h1,h2⟩ := he j hj
   refine ⟨e,?_,h2.mono fun k hk => hk.1⟩
   rw [cell_of_row w g _ cur _ (0,0) hg,Nat.zero_add]
   have := congrArg (fun q => q[j]?) ht
   simp only [List.getElem?_take] at this
   rw [if_pos (by omega),h1] at this
   simpa using this
theorem qm.more {w w1 w' : World} {B g cap : Nat} {v e : Value} {ts : List (List UInt8)} {r : List UInt8} (h : qm w B v ts) (hb : Below w.heap.size w w1)
 (he : Rec1 w1 (fun g => w.heap.size <= g) e r) (hBw : B <= w.heap.size) (vs : List Value) (hvs : vs.length = ts.length)
 (hat : ∀ j (hj : j < ts.length),∃ e,vs[j]? = some e /\ Rec1 w (fun g => B <= g /\ v.ownBlock ≠ some g) e ts[j])
 (ho : w'.ownsRow B 33 1 (.slice (some ⟨g,0,none⟩) (ts.length + 1) cap) (ts.length + 1) (vs ++ [e])) (hg : w1.grownBy w' v.ownBlock) (hv : ∀ k,v.ownBlock = some k -> k < w.heap.size) (hq : v.ownBlock = some g \/ w1.heap.size <= g) : qm w' B (.slice (some ⟨g,0,none⟩) (ts.length + 1) cap) (ts ++ [r]) := by
 have hs1 := hb.size
 refine ⟨vs ++ [e],by rw [List.length_append]; exact ho,by simp [hvs],fun j hj => ?_⟩
 have hne : ∀ {Y : Nat -> Prop} {x : Value} {t : List UInt8},Rec1 w1 Y x t -> (∀ k,k < w1.heap.size -> Y k -> B <= k /\ v.ownBlock ≠ some k) -> Rec1 w' (fun q => B <= q /\ (Value.slice (some ⟨g,0,none⟩) (ts.length + 1) cap).ownBlock ≠ some q) x t := by
  intro Y x t hx hY
  obtain ⟨E,c,ex,hc,hl,hz⟩ := hx
  refine ⟨E,c,ex,hc,hl.keep hg.size fun h0 q off eq hlt => hg.block q hlt fun er => (hY q hlt (hz h0 q off eq)).2 er.symm,fun h0 q off eq => ?_⟩
  obtain ⟨q',off',eq',hlt,_⟩ := hl.2.2.2 h0
  have hqq : q' = q := by rw [eq] at eq'; injection eq' with eq'; injection eq' with e1 _; exact e1.symm
  subst hqq
  have h3 := hY q' hlt (hz h0 q' off eq)
  refine ⟨h3.1,fun er => ?_⟩
  injection er with er
  have er : g = q' := er
  subst er
  rcases hq with hq | hq
  · exact h3.2 hq
  · omega
 by_cases hjl : j < ts.length
 · obtain ⟨x,h1,h2⟩ := hat j hjl
   refine ⟨x,by rw [List.getElem?_append_left (by omega)]; exact h1,?_⟩
   rw [List.getElem_append_left hjl]
   exact hne (h2.keep hs1 fun k hk _ => hb.block k hk) fun k _ hk => hk
 · obtain rfl : j = ts.length := by simp at hj; omega
   refine ⟨e,by rw [<- hvs]; simp,?_⟩
   rw [List.getElem_append_right nlq]
   simp only [Nat.sub_self,List.getElem_cons_zero]
   exact hne he fun k _ hk => ⟨Nat.le_trans hBw hk,fun er => by have := hv k er; omega⟩
structure qfo (w wr : World) (l : List UInt8) (k : Nat) (ts : List (List UInt8)) (v : Value) : Prop where
 told : Told l k ts
 many : 8 * ts.length <= k
 row : qm wr w.heap.size v ts
 below : Below w.heap.size w wr
def qdx (l : List UInt8) (w : World) (e : Ending) (w' : World) : Prop :=
 ∃ A cap,e = .returned (.tuple #[.slice A (qv l).1.length cap, .int .i64 (((qv l).2 : Nat) : Int)]) /\ Recs w' (w.heap.size <= ·) A (qv l).1.length cap (qv l).1 /\ Below w.heap.size w w'
theorem qdx.of {l : List UInt8} {w wr w' : World} {k : Nat} {ts : List (List UInt8)} {A : Option Addr} {n cap : Nat} (h : qfo w wr l k ts (.slice A n cap)) (hn : n = ts.length) (hs : qS (l.drop k) = none) (hb : Below wr.heap.size wr w') : qdx l w (.returned (.tuple #[.slice A n cap, .int .i64 (k : Int)])) w' := by
 have hd := h.told.done (qbe hs)
 refine ⟨A,cap,by rw [hd,hn],?_,h.below.trans (hb.mono h.below.size)⟩
 rw [hd]
 exact h.row.recs.below hb nlq
theorem qeW (A : Option Addr) (len cap : Nat) (l : List UInt8) (w : World) (hl : Lies w A len cap l) (hm : len <= 1000000000) :
 Calls Tryz.prog 91 #[.slice A len cap] w (qdx l w) := by
 have hll := hl.1
 have hlc := hl.2.1
 have hT0 : qfo w w l 0 [] (.slice none 0 0) := ⟨Told.start _,by simp,qm.nil _ _,blq⟩
 obtain ⟨i0,hi0,hz0,hz1,hz2⟩ := info_parts qdw
 go_enter Tryz.func91,Tryz.ntmps91
 go_wp2
 go_loopg [4,5,6,7] len (fun g v a r o wr => ∃ (k : Nat) (ts : List (List UInt8)),a = .int .i64 (k : Int) /\ k + g = len /\ qfo w wr l k ts v)
 case atStart => exact ⟨0,[],rfl,by omega,hT0⟩
 case round =>
  clear hT0
  obtain ⟨k,ts,rfl,hk,hT⟩ := hrel
  obtain ⟨A0,cap0,rfl⟩ := hT.row.form
  have s1 := fun W => qcq (P := Tryz.prog) Tryz.underlying33 qaD A len cap k (by omega) hlc W
  have hld := (hl.drop k (by omega)).below hT.below nlq
  generalize qK A cap k = A1 at *
  generalize cap - k = c1 at *
  obtain ⟨m,hmk⟩ : ∃ m,len - k = m := ⟨_,rfl⟩
  rw [hmk] at s1 hld
  have hF := qho A1 m c1 _ wr hld (by omega)
  have HT := Lib.hid hT
  have HK := Lib.hid hk
  cases hs : qS (l.drop k) with
  | none =>
    have HS := Lib.hid hs
    clear hT hk hmk hl hll hlc hm
    go_wp2_with (first
     | (go_at_call 135
        refine hF.mono ?_
        rintro e w1 ⟨hf,hb1⟩
        have he : e = .returned (.tuple #[.slice none 0 0, .bool false]) := by
         rcases hf with ⟨_,he⟩ | ⟨r,B,c,h1,_⟩
         · exact he
         · rw [HS] at h1; cases h1
        subst he
        clear hf)
     | fail)
    refine bodyPost_ret (results_tmp2 rfl _ _ _) rfl ?_
    exact qdx.of HT rfl HS hb1
  | some r =>
    have HS := Lib.hid hs
    obtain ⟨hrm,hr6⟩ := Told.room hs
    rw [hll] at hrm
    have HTS := Lib.hid (hT.told.step hs)
    have hmany := hT.many
    have hbw := hT.below
    have hs0 := hT.below.size
    obtain ⟨vs,hown,hvl,hvat⟩ := hT.row
    have hof := hown.lt
    have hrow := Lib.hid hT.row
    obtain ⟨n,hn⟩ : ∃ n,Hid (r.length = n) := ⟨_,⟨rfl⟩⟩
    have HV := Lib.hid hvat
    have HVL := Lib.hid hvl
    rw [hn.out] at hrm hr6
    have e1 : IntKind.i64.wrap (8 + (n : Int)) = ((8 + n : Nat) : Int) := by rw [IntWalk.i64_in _ (by omega)]; omega
    have e2 : IntKind.i64.wrap ((k : Int) + ((8 + n : Nat) : Int)) = ((k + (8 + n) : Nat) : Int) := by rw [IntWalk.i64_in _ (by omega)]; omega
    have hk2 : Hid (k + (8 + n) <= len /\ 8 <= n + 8) := ⟨by omega,by omega⟩
    have hmn : Hid (8 * ts.length <= k /\ ts.length <= 1000000000) := ⟨by omega,by omega⟩
    have hn6 : Hid (n <= 60000) := ⟨hr6⟩
    generalize h8 : 8 + n = n8 at *
    have H8 := Lib.hid h8
    clear hT hk hmk hs hrm hr6 hmany hm hll hlc hl h8 hvat hvl
    go_wp2_with (first
     | (go_at_call 135
        refine hF.mono ?_
        rintro e w1 ⟨hf,hb1⟩
        obtain ⟨B,c,he,hlB⟩ : ∃ B c,e = .returned (.tuple #[.slice B n c, .bool true]) /\ Lies w1 B n c r := by
         rcases hf with ⟨h1,_⟩ | ⟨r',B,c,h1,he,hlr,_⟩
         · rw [HS] at h1; cases h1
         · rw [HS] at h1
           injection h1 with h1
           subst h1
           rw [hn.out] at he hlr
           exact ⟨B,c,he,hlr⟩
        subst he
        clear hf)
     | fail)
    refine (qbx _ _ _ r _ hlB (by have := hn.out; have := hn6.out; omega)).mono ?_
    rintro e w2 ⟨v2,rfl,ho2,hb2⟩
    obtain ⟨A2,cap2,he2,hl2,hq2⟩ := qq ho2
    have hc2 : cap2 <= maxLen := qcx (by rw [<- he2]; exact ho2)
    rw [hn.out] at he2 hl2
    have hof2 := ho2.lt
    subst he2
    have hb12 : Below wr.heap.size wr w2 := hb1.trans (hb2.mono hb1.size)
    have hown2 := qeV hown fun g hg => hb12.block g (hof g hg).2
    have htl : ts.length <= 1000000000 := hmn.out.2
    go_wp2_with (first
     | (at_builtin; refine wpList_append_lies _ rfl _ _ 97 rfl w.heap.size 33 i0 _ 1 24 Tryz.underlying97 hi0 hz0 hz1 hz2 rfl (by omega) (.slice A0 ts.length cap0) ts.length vs rfl (hown2.alloc _) ⟨w2.heap.size,0,none⟩ 1 1 [.slice A2 n cap2] rfl rfl (World.news_of_block (heap_alloc_new w2 _)) (by simp [Value.oneCell']) (by omega) (by unfold maxLen; omega) (by omega) (by have := hb12.size; simp; omega) (w2.heap.size + 1) (by simp) ?_
        intro g2 cap3 w4 ho4 hgr4 hat4 hlt4)
     | fail)
    have hrec : qm w4 w.heap.size (.slice (some ⟨g2,0,none⟩) (ts.length + 1) cap3) (ts ++ [r]) := by
     have hz := hb12.size
     refine qm.more (w := wr) (w1 := w2.alloc (.cells #[.slice A2 n cap2] 33)) hrow (hb12.alloc hb12.size _) (e := .slice A2 n cap2) ?_ hs0 vs HVL HV ho4 hgr4 (fun q hq => (hof q hq).2) ?_
     · refine ⟨A2,cap2,by rw [hn.out],hc2,?_,fun h0 g off e => ?_⟩
       · rw [hn.out]
         exact hl2.below ((Below.refl w2.heap.size w2).alloc nlq _) nlq
       · have h1 := (hof2 g (hq2 g off e)).1
         have h2 := hb1.size
         omega
     · rcases hat4 with h | h
       · exact .inl h
       · exact .inr (by simp; omega)
    have hbw4 : Below w.heap.size w w4 := (hbw.trans ((hb12.alloc hb12.size _).mono hs0)).grown hgr4 (by have := hb12.size; simp; omega) fun q hq => (hof q hq).1
    have HR := Lib.hid hrec
    have HB := Lib.hid hbw4
    clear hrec hbw4 ho4 hgr4 hat4 hof hof2 hl2 hq2 hown2 hown hb12 hb2 hb1 ho2 hF hlB hmn htl hlt4
    go_wp2
    go_roundg (gk - (8 + n))
    case measure =>
     have a1 : k + gk = len := HK
     have a2 : 8 + n = n8 := H8
     have a3 := hk2.out.1
     omega
    case rel =>
     have a1 : k + gk = len := HK
     have a2 : 8 + n = n8 := H8
     have a3 := hk2.out.1
     refine ⟨k + n8,ts ++ [r],by first | rfl | go_num,by omega,?_,?_,HR,HB⟩
     · have h0 : Told l (k + (8 + r.length)) (ts ++ [r]) := HTS
       rw [hn.out,a2] at h0
       exact h0
     · have h0 : qfo w wr l k ts _ := HT
       have h1 := h0.many
       rw [List.length_append,List.length_singleton]
       omega
end Go.Proofs.YtmeoooojmhhahaaGreat
