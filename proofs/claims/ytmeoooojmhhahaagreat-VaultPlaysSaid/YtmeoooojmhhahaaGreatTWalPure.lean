/- Numbers as bytes, and what is taken of bytes. Plain mathematics (L03's XOctBase has the same words). -/
import Derived.WalkKit
set_option linter.unusedVariables false
set_option linter.unusedSimpArgs false
set_option maxRecDepth 100000
set_option maxHeartbeats 200000
namespace Go.Proofs.YtmeoooojmhhahaaGreat
def wide (v : Nat) : Nat -> List UInt8
 | 0 => []
 | n + 1 => UInt8.ofNat (v / 256 ^ n) :: wide v n
@[simp] theorem qc0 (v n : Nat) : (wide v n).length = n := by
 induction n with
 | zero => rfl
 | succ n ih => simp [wide,ih]
def num (l : List UInt8) : Nat := l.foldl (fun v b => v * 256 + b.toNat) 0
theorem qiA (v n : Nat) : ∀ a,(wide v n).foldl (fun v b => v * 256 + b.toNat) a = a * 256 ^ n + v % 256 ^ n := by
 induction n with
 | zero => intro a; simp [wide,Nat.mod_one]
 | succ n ih =>
   intro a
   rw [wide,List.foldl_cons,ih,Nat.pow_succ,Nat.mod_mul]
   have h : (UInt8.ofNat (v / 256 ^ n)).toNat = v / 256 ^ n % 256 := by simp
   rw [h,Nat.add_mul,Nat.mul_assoc,Nat.mul_comm 256 (256 ^ n),Nat.mul_comm (v / 256 ^ n % 256)]
   omega
theorem qkF (v n : Nat) : num (wide v n) = v % 256 ^ n := by
 rw [num,qiA]; simp
theorem qeA (l : List UInt8) (b : UInt8) : num (l ++ [b]) = num l * 256 + b.toNat := by simp [num]
theorem qkG (l : List UInt8) : ∀ a,l.foldl (fun v b => v * 256 + b.toNat) a < (a + 1) * 256 ^ l.length := by
 induction l with
 | nil => intro a; simp
 | cons b l ih =>
   intro a
   have := ih (a * 256 + b.toNat)
   have hb : b.toNat < 256 := b.toNat_lt
   rw [List.foldl_cons,List.length_cons,Nat.pow_succ]
   refine Nat.lt_of_lt_of_le this ?_
   rw [Nat.mul_comm (256 ^ l.length),<- Nat.mul_assoc]
   exact Nat.mul_le_mul_right _ (by omega)
theorem qdc (l : List UInt8) : num l < 256 ^ l.length := by
 have := qkG l 0
 rwa [Nat.zero_add,Nat.one_mul] at this
abbrev St := Option (List UInt8)
def left (s : St) : Nat := match s with | none => 0 | some l => l.length
def takeN (s : St) (n : Nat) : List UInt8 × St :=
 match s with
 | none => ([],none)
 | some l => if n <= l.length then (l.take n,some (l.drop n)) else ([],none)
theorem qcE (s : St) (n : Nat) : (takeN s n).1.length <= n := by
 unfold takeN
 split
 · simp
 · split <;> simp <;> omega
def numberN (s : St) (n : Nat) : Nat × St := (num (takeN s n).1,(takeN s n).2)
theorem qbc (s : St) (n : Nat) : (numberN s n).1 < 256 ^ n :=
 Nat.lt_of_lt_of_le (qdc _) (Nat.pow_le_pow_right (by omega) (qcE s n))
def qaI (s : St) (most : Int) : Nat × St := if most < 0 \/ most < ((numberN s 4).1 : Int) \/ left (numberN s 4).2 < (numberN s 4).1 then (0,none) else numberN s 4
def qaY (s : St) (most : Int) : List UInt8 × St := takeN (qaI s most).2 (qaI s most).1
end Go.Proofs.YtmeoooojmhhahaaGreat
namespace Go.Proofs.YtmeoooojmhhahaaGreat
def bit1 (c : Nat) : Nat := if c % 2 = 1 then c / 2 ^^^ 3988292384 else c / 2
def bitsN : Nat -> Nat -> Nat
 | 0,c => c
 | n + 1,c => bit1 (bitsN n c)
def qiB (c : Nat) (b : UInt8) : Nat := bitsN 8 (c ^^^ b.toNat)
def qag (l : List UInt8) (c : Nat) : Nat := l.foldl qiB c
def moreN (s : Nat) (l : List UInt8) : Nat := qag l (s ^^^ 4294967295) ^^^ 4294967295
theorem qlG (c : Nat) (h : c < 4294967296) : bit1 c < 4294967296 := by
 unfold bit1
 split
 · exact Nat.xor_lt_two_pow (n := 32) (by omega) (by omega)
 · omega
theorem qeB (n c : Nat) (h : c < 4294967296) : bitsN n c < 4294967296 := by
 induction n with
 | zero => exact h
 | succ n ih => exact qlG _ ih
theorem qco (a b : Nat) (ha : a < 4294967296) (hb : b < 4294967296) : a ^^^ b < 4294967296 := Nat.xor_lt_two_pow (n := 32) ha hb
theorem byteN_lt (c : Nat) (b : UInt8) (h : c < 4294967296) : qiB c b < 4294967296 :=
 qeB _ _ (qco _ _ h (Nat.lt_trans b.toNat_lt (by decide)))
theorem qeC (l : List UInt8) : ∀ c,c < 4294967296 -> qag l c < 4294967296 := by
 induction l with
 | nil => intro c h; exact h
 | cons b l ih => intro c h; exact ih _ (byteN_lt c b h)
theorem qbt (s : Nat) (l : List UInt8) (h : s < 4294967296) : moreN s l < 4294967296 :=
 qco _ _ (qeC l _ (qco _ _ h (by decide))) (by decide)
theorem qiC (l : List UInt8) (b : UInt8) (c : Nat) : qag (l ++ [b]) c = qiB (qag l c) b := by simp [qag]
end Go.Proofs.YtmeoooojmhhahaaGreat
namespace Go.Proofs.YtmeoooojmhhahaaGreat
def sumL (r : List UInt8) : Nat := moreN (moreN 0 (wide r.length 4)) r
def frameL (r : List UInt8) : List UInt8 := wide r.length 4 ++ (wide (sumL r) 4 ++ r)
theorem qu (r : List UInt8) : (frameL r).length = r.length + 8 := by simp [frameL]; omega
theorem qlH (r : List UInt8) : sumL r < 4294967296 := qbt _ _ (qbt _ _ (by omega))
def framesL (l : List (List UInt8)) : List UInt8 := l.flatMap frameL
theorem qa7 (r : List UInt8) (l : List (List UInt8)) : framesL (r :: l) = frameL r ++ framesL l := rfl
theorem qek (a b : List (List UInt8)) : framesL (a ++ b) = framesL a ++ framesL b := List.flatMap_append
def qS (b : List UInt8) : Option (List UInt8) :=
 if b.length < 8 then none else
 if 60000 < num (b.take 4) \/ b.length - 8 < num (b.take 4) then none else
 if frameL ((b.drop 8).take (num (b.take 4))) = b.take (8 + num (b.take 4)) then some ((b.drop 8).take (num (b.take 4))) else none
theorem qbd {b r : List UInt8} (h : qS b = some r) : b = frameL r ++ b.drop (r.length + 8) /\ r.length <= 60000 := by
 unfold qS at h
 split at h
 · cases h
 · rename_i h8
   split at h
   · cases h
   · rename_i hn
     split at h
     · rename_i he
       injection h with h
       have hlen : r.length = num (b.take 4) := by
        rw [<- h,List.length_take,List.length_drop]
        omega
       refine ⟨?_,by omega⟩
       rw [h] at he
       rw [hlen,he,Nat.add_comm,List.take_append_drop]
     · cases h
def qcF : Nat -> List UInt8 -> List (List UInt8) × Nat
 | 0,_ => ([],0)
 | g + 1,b => match qS b with
   | none => ([],0)
   | some r => (r :: (qcF g (b.drop (r.length + 8))).1,r.length + 8 + (qcF g (b.drop (r.length + 8))).2)
def qv (b : List UInt8) : List (List UInt8) × Nat := qcF b.length b
theorem qe1 : ∀ (g h : Nat) (b : List UInt8),b.length <= g -> b.length <= h -> qcF g b = qcF h b
 | 0,0,_,_,_ => rfl
 | 0,h + 1,b,hg,_ => by
   have : b = [] := List.eq_nil_of_length_eq_zero (by omega)
   subst this
   rfl
 | g + 1,0,b,_,hh => by
   have : b = [] := List.eq_nil_of_length_eq_zero (by omega)
   subst this
   rfl
 | g + 1,h + 1,b,hg,hh => by
   unfold qcF
   cases hs : qS b with
   | none => rfl
   | some r =>
     have := qbd hs
     have hl : (b.drop (r.length + 8)).length <= b.length - 8 := by rw [List.length_drop]; omega
     have h8 : 8 <= b.length := by
      have := congrArg List.length this.1
      rw [List.length_append,qu] at this
      omega
     dsimp only
     rw [qe1 g h _ (by omega) (by omega)]
theorem qbe {b : List UInt8} (h : qS b = none) : qv b = ([],0) := by
 unfold qv
 cases hb : b.length with
 | zero => rfl
 | succ n => unfold qcF; rw [h]
theorem qb9 {b r : List UInt8} (h : qS b = some r) : qv b = (r :: (qv (b.drop (r.length + 8))).1,r.length + 8 + (qv (b.drop (r.length + 8))).2) := by
 have := qbd h
 have h8 : 8 <= b.length := by
  have := congrArg List.length this.1
  rw [List.length_append,qu] at this
  omega
 obtain ⟨n,hn⟩ : ∃ n,b.length = n + 1 := ⟨b.length - 1,by omega⟩
 unfold qv
 rw [hn]
 conv => lhs; unfold qcF
 rw [h]
 dsimp only
 rw [qe1 n (b.drop (r.length + 8)).length _ (by rw [List.length_drop]; omega) (Nat.le_refl _)]
def fit (l : List (List UInt8)) : Prop := ∀ r ∈ l,r.length <= 60000
theorem qkH {r : List UInt8} {l : List (List UInt8)} (h : fit (r :: l)) : r.length <= 60000 /\ fit l :=
 ⟨h r List.mem_cons_self,fun x hx => h x (List.mem_cons_of_mem _ hx)⟩
theorem qcG (b : List UInt8) : (qv b).2 <= b.length := by
 suffices ∀ n (b : List UInt8),b.length <= n -> (qv b).2 <= b.length from this b.length b (Nat.le_refl _)
 intro n
 induction n with
 | zero =>
   intro b hb
   have : b = [] := List.eq_nil_of_length_eq_zero (by omega)
   subst this
   exact Nat.le_refl _
 | succ n ih =>
   intro b hb
   cases hs : qS b with
   | none => rw [qbe hs]; exact Nat.zero_le _
   | some r =>
     obtain ⟨e,_⟩ := qbd hs
     have hlen := congrArg List.length e
     rw [List.length_append,qu] at hlen
     have := ih (b.drop (r.length + 8)) (by rw [List.length_drop]; omega)
     rw [qb9 hs]
     rw [List.length_drop] at this
     dsimp only
     omega
theorem qcp (b : List UInt8) : b.take (qv b).2 = framesL (qv b).1 /\ fit (qv b).1 := by
 suffices ∀ n (b : List UInt8),b.length <= n -> b.take (qv b).2 = framesL (qv b).1 /\ fit (qv b).1 from this b.length b (Nat.le_refl _)
 intro n
 induction n with
 | zero =>
   intro b hb
   have : b = [] := List.eq_nil_of_length_eq_zero (by omega)
   subst this
   exact ⟨rfl,fun r hr => by cases hr⟩
 | succ n ih =>
   intro b hb
   cases hs : qS b with
   | none => rw [qbe hs]; exact ⟨rfl,fun r hr => by cases hr⟩
   | some r =>
     obtain ⟨e,hr⟩ := qbd hs
     have hlen := congrArg List.length e
     rw [List.length_append,qu] at hlen
     obtain ⟨h1,h2⟩ := ih (b.drop (r.length + 8)) (by rw [List.length_drop]; omega)
     rw [qb9 hs]
     refine ⟨?_,fun x hx => ?_⟩
     · dsimp only
       have e2 : ∀ m,b.take (r.length + 8 + m) = frameL r ++ (b.drop (r.length + 8)).take m := fun m => by
        conv => lhs; rw [e]
        rw [List.take_append,qu,List.take_of_length_le (by rw [qu]; omega),Nat.add_sub_cancel_left]
       rw [qa7,<- h1,e2]
     · rcases List.mem_cons.1 hx with rfl | hx
       · exact hr
       · exact h2 x hx
end Go.Proofs.YtmeoooojmhhahaaGreat
namespace Go.Proofs.YtmeoooojmhhahaaGreat
theorem qcH (v : Nat) (b : UInt8) (n : Nat) : wide (v * 256 + b.toNat) (n + 1) = wide v n ++ [b] := by
 have hb : b.toNat < 256 := b.toNat_lt
 induction n with
 | zero =>
   simp only [wide,Nat.pow_zero,Nat.div_one,List.nil_append,List.cons.injEq,and_true]
   apply UInt8.toNat_inj.1
   simp
 | succ n ih =>
   rw [wide,ih,wide,List.cons_append]
   congr 2
   rw [Nat.pow_succ',<- Nat.div_div_eq_div_mul]
   congr 1
   omega
theorem qfV (l : List UInt8) (h : l.length = 4) : wide (num l) 4 = l := by
 match l,h with
 | [a,b,c,d],_ =>
   have e : num [a,b,c,d] = (((0 * 256 + a.toNat) * 256 + b.toNat) * 256 + c.toNat) * 256 + d.toNat := rfl
   rw [e,qcH,qcH,qcH,qcH]
   rfl
theorem qfW (l : List UInt8) (n : Nat) (hn : num (l.take 4) = n) (h : 60000 < n \/ l.length < 8 + n) : qS l = none := by
 unfold qS
 split
 · rfl
 · rw [if_pos (by rw [hn]; omega)]
theorem qgR (l : List UInt8) (h : l.length < 8) : qS l = none := by
 unfold qS
 rw [if_pos h]
theorem qkI (l : List UInt8) (n : Nat) (hn : num (l.take 4) = n) (h6 : n <= 60000) (h8 : 8 + n <= l.length) :
 qS l = if num ((l.drop 4).take 4) = moreN (moreN 0 (l.take 4)) ((l.drop 8).take n) then some ((l.drop 8).take n) else none := by
 unfold qS
 rw [if_neg (by omega),hn,if_neg (by omega)]
 have hr : ((l.drop 8).take n).length = n := by simp; omega
 have e4 : (l.take 4).length = 4 := by simp; omega
 have e44 : ((l.drop 4).take 4).length = 4 := by simp; omega
 have ew : wide n 4 = l.take 4 := by rw [<- hn]; exact qfV _ e4
 have et : l.take (8 + n) = l.take 4 ++ ((l.drop 4).take 4 ++ (l.drop 8).take n) := by
  rw [show 8 + n = 4 + (4 + n) by omega,List.take_add,List.take_add,List.drop_drop]
 have es : sumL ((l.drop 8).take n) = moreN (moreN 0 (l.take 4)) ((l.drop 8).take n) := by unfold sumL; rw [hr,ew]
 have ef : frameL ((l.drop 8).take n) = l.take 4 ++ (wide (sumL ((l.drop 8).take n)) 4 ++ (l.drop 8).take n) := by unfold frameL; rw [hr,ew]
 have hiff : (frameL ((l.drop 8).take n) = l.take (8 + n)) ↔ num ((l.drop 4).take 4) = moreN (moreN 0 (l.take 4)) ((l.drop 8).take n) := by
  rw [ef,et,<- es]
  constructor
  · intro h
    have h2 := List.append_cancel_left h
    have h3 := (List.append_inj h2 (by simp [e44])).1
    rw [<- h3,qkF]
    have := qlH ((l.drop 8).take n)
    omega
  · intro h
    rw [<- h,qfV _ e44]
 by_cases h : frameL ((l.drop 8).take n) = l.take (8 + n)
 · rw [if_pos h,if_pos (hiff.1 h)]
 · rw [if_neg h,if_neg (fun e => h (hiff.2 e))]
end Go.Proofs.YtmeoooojmhhahaaGreat
namespace Go.Proofs.YtmeoooojmhhahaaGreat
theorem ext_list (s : ByteArray) (a b : Nat) : (s.extract a b).data.toList = (s.data.toList.drop a).take (b - a) := by
 rw [ByteArray.data_extract,Array.toList_extract,List.extract_eq_take_drop]
theorem qcI (s : ByteArray) : s.data.toList.length = s.size := by simp
def part (l : List UInt8) (a b : Nat) : List UInt8 := (l.drop a).take (b - a)
theorem qhO (l : List UInt8) (a b : Nat) (h1 : a <= b) (h2 : b <= l.length) : (part l a b).length = b - a := by
 simp [part]; omega
theorem qbw (l : List UInt8) (k n : Nat) : (l.drop k).take n = part l k (k + n) := by
 rw [part,Nat.add_sub_cancel_left]
theorem qiD (l : List UInt8) (k : Nat) (h : l.length < k + 8) : qv (l.drop k) = ([],0) := by
 apply qbe
 unfold qS
 rw [if_pos (by rw [List.length_drop]; omega)]
theorem qe2 (l : List UInt8) (k n : Nat) (hk : k + 8 <= l.length) (hn : num (part l k (k + 4)) = n) (h : 60000 < n \/ l.length < k + 8 + n) : qv (l.drop k) = ([],0) := by
 apply qbe
 unfold qS
 rw [qbw,hn,if_neg (by rw [List.length_drop]; omega),if_pos (by rw [List.length_drop]; omega)]
theorem qe3 (l : List UInt8) (k n : Nat) : ((l.drop k).drop 8).take n = part l (k + 8) (k + 8 + n) := by
 rw [List.drop_drop,qbw]
theorem qjD (l : List UInt8) (k n : Nat) (hn : num (part l k (k + 4)) = n) (h : frameL (part l (k + 8) (k + 8 + n)) ≠ part l k (k + 8 + n)) : qv (l.drop k) = ([],0) := by
 apply qbe
 unfold qS
 rw [qbw,hn]
 split
 · rfl
 · split
   · rfl
   · rw [qe3,qbw,if_neg (by rw [<- Nat.add_assoc]; exact h)]
theorem qjE (l : List UInt8) (k n : Nat) (hn : num (part l k (k + 4)) = n) (hk : k + 8 + n <= l.length) (h6 : n <= 60000) (h : frameL (part l (k + 8) (k + 8 + n)) = part l k (k + 8 + n)) :
 qv (l.drop k) = (part l (k + 8) (k + 8 + n) :: (qv (l.drop (k + 8 + n))).1,8 + n + (qv (l.drop (k + 8 + n))).2) := by
 have h1 : qS (l.drop k) = some (part l (k + 8) (k + 8 + n)) := by
  unfold qS
  rw [qbw,hn,if_neg (by rw [List.length_drop]; omega),if_neg (by rw [List.length_drop]; omega),qe3,qbw,if_pos (by rw [<- Nat.add_assoc]; exact h)]
 rw [qb9 h1,qhO _ _ _ (by omega) (by omega),List.drop_drop]
 have e1 : k + (k + 8 + n - (k + 8) + 8) = k + 8 + n := by omega
 have e2 : k + 8 + n - (k + 8) + 8 = 8 + n := by omega
 rw [e1,e2]
structure Told (l : List UInt8) (k : Nat) (ls : List (List UInt8)) : Prop where
 le : k <= l.length
 all : qv l = (ls ++ (qv (l.drop k)).1,k + (qv (l.drop k)).2)
theorem Told.start (l : List UInt8) : Told l 0 [] := ⟨Nat.zero_le _,by simp⟩
theorem Told.next {l : List UInt8} {k n : Nat} {ls : List (List UInt8)} (h : Told l k ls) (hn : num (part l k (k + 4)) = n) (hk : k + 8 + n <= l.length) (h6 : n <= 60000) (hf : frameL (part l (k + 8) (k + 8 + n)) = part l k (k + 8 + n)) :
 Told l (k + 8 + n) (ls ++ [part l (k + 8) (k + 8 + n)]) := by
 refine ⟨hk,?_⟩
 rw [h.all,qjE l k n hn hk h6 hf,List.append_assoc,List.singleton_append]
 congr 1
 omega
theorem Told.done {l : List UInt8} {k : Nat} {ls : List (List UInt8)} (h : Told l k ls) (hs : qv (l.drop k) = ([],0)) : qv l = (ls,k) := by
 rw [h.all,hs,List.append_nil,Nat.add_zero]
end Go.Proofs.YtmeoooojmhhahaaGreat
