/- Numbers as bytes, and what is taken of bytes. Plain mathematics (L03's XOctBase has the same words). -/
import Derived.WalkKit
namespace Go.Proofs.YtmeoooojmhhahaaGreat
set_option linter.unusedVariables false

/- numbers -/

/-- A number's lowest bytes, the highest first. -/
def wide (v : Nat) : Nat → List UInt8
  | 0 => []
  | n + 1 => UInt8.ofNat (v / 256 ^ n) :: wide v n

@[simp] theorem wide_length (v n : Nat) : (wide v n).length = n := by
  induction n with
  | zero => rfl
  | succ n ih => simp [wide, ih]

/-- The number of bytes, the highest first. -/
def num (l : List UInt8) : Nat := l.foldl (fun v b => v * 256 + b.toNat) 0

theorem foldl_wide (v n : Nat) : ∀ a, (wide v n).foldl (fun v b => v * 256 + b.toNat) a = a * 256 ^ n + v % 256 ^ n := by
  induction n with
  | zero => intro a; simp [wide, Nat.mod_one]
  | succ n ih =>
    intro a
    rw [wide, List.foldl_cons, ih, Nat.pow_succ, Nat.mod_mul]
    have h : (UInt8.ofNat (v / 256 ^ n)).toNat = v / 256 ^ n % 256 := by simp
    rw [h, Nat.add_mul, Nat.mul_assoc, Nat.mul_comm 256 (256 ^ n), Nat.mul_comm (v / 256 ^ n % 256)]
    omega

theorem num_wide (v n : Nat) : num (wide v n) = v % 256 ^ n := by
  rw [num, foldl_wide]; simp

theorem num_snoc (l : List UInt8) (b : UInt8) : num (l ++ [b]) = num l * 256 + b.toNat := by simp [num]

theorem foldl_lt (l : List UInt8) : ∀ a, l.foldl (fun v b => v * 256 + b.toNat) a < (a + 1) * 256 ^ l.length := by
  induction l with
  | nil => intro a; simp
  | cons b l ih =>
    intro a
    have := ih (a * 256 + b.toNat)
    have hb : b.toNat < 256 := b.toNat_lt
    rw [List.foldl_cons, List.length_cons, Nat.pow_succ]
    refine Nat.lt_of_lt_of_le this ?_
    rw [Nat.mul_comm (256 ^ l.length), ← Nat.mul_assoc]
    exact Nat.mul_le_mul_right _ (by omega)

theorem num_lt (l : List UInt8) : num l < 256 ^ l.length := by
  have := foldl_lt l 0
  rwa [Nat.zero_add, Nat.one_mul] at this

/- what is taken: none is bad -/

abbrev St := Option (List UInt8)

def left (s : St) : Nat := match s with | none => 0 | some l => l.length

def takeN (s : St) (n : Nat) : List UInt8 × St :=
  match s with
  | none => ([], none)
  | some l => if n ≤ l.length then (l.take n, some (l.drop n)) else ([], none)

theorem takeN_len (s : St) (n : Nat) : (takeN s n).1.length ≤ n := by
  unfold takeN
  split
  · simp
  · split <;> simp <;> omega

def numberN (s : St) (n : Nat) : Nat × St := (num (takeN s n).1, (takeN s n).2)

theorem numberN_lt (s : St) (n : Nat) : (numberN s n).1 < 256 ^ n :=
  Nat.lt_of_lt_of_le (num_lt _) (Nat.pow_le_pow_right (by omega) (takeN_len s n))

def flagN (s : St) : Bool × St := if 1 < (numberN s 1).1 then (false, none) else (decide ((numberN s 1).1 = 1), (numberN s 1).2)

def countN (s : St) (most : Int) : Nat × St := if most < 0 ∨ most < ((numberN s 4).1 : Int) ∨ left (numberN s 4).2 < (numberN s 4).1 then (0, none) else numberN s 4

def textN (s : St) (most : Int) : List UInt8 × St := takeN (countN s most).2 (countN s most).1

end Go.Proofs.YtmeoooojmhhahaaGreat

namespace Go.Proofs.YtmeoooojmhhahaaGreat

/-- Half, and turned if the lowest bit was 1. -/
def bit1 (c : Nat) : Nat := if c % 2 = 1 then c / 2 ^^^ 3988292384 else c / 2

/-- So many times. -/
def bitsN : Nat → Nat → Nat
  | 0, c => c
  | n + 1, c => bit1 (bitsN n c)

/-- A byte more. -/
def byteN (c : Nat) (b : UInt8) : Nat := bitsN 8 (c ^^^ b.toNat)

def overN (l : List UInt8) (c : Nat) : Nat := l.foldl byteN c

def moreN (s : Nat) (l : List UInt8) : Nat := overN l (s ^^^ 4294967295) ^^^ 4294967295

theorem bit1_lt (c : Nat) (h : c < 4294967296) : bit1 c < 4294967296 := by
  unfold bit1
  split
  · exact Nat.xor_lt_two_pow (n := 32) (by omega) (by omega)
  · omega

theorem bitsN_lt (n c : Nat) (h : c < 4294967296) : bitsN n c < 4294967296 := by
  induction n with
  | zero => exact h
  | succ n ih => exact bit1_lt _ ih

theorem xor_lt (a b : Nat) (ha : a < 4294967296) (hb : b < 4294967296) : a ^^^ b < 4294967296 := Nat.xor_lt_two_pow (n := 32) ha hb

theorem byteN_lt (c : Nat) (b : UInt8) (h : c < 4294967296) : byteN c b < 4294967296 :=
  bitsN_lt _ _ (xor_lt _ _ h (Nat.lt_trans b.toNat_lt (by decide)))

theorem overN_lt (l : List UInt8) : ∀ c, c < 4294967296 → overN l c < 4294967296 := by
  induction l with
  | nil => intro c h; exact h
  | cons b l ih => intro c h; exact ih _ (byteN_lt c b h)

theorem moreN_lt (s : Nat) (l : List UInt8) (h : s < 4294967296) : moreN s l < 4294967296 :=
  xor_lt _ _ (overN_lt l _ (xor_lt _ _ h (by decide))) (by decide)

theorem overN_append (l m : List UInt8) (c : Nat) : overN (l ++ m) c = overN m (overN l c) := by simp [overN]

theorem overN_snoc (l : List UInt8) (b : UInt8) (c : Nat) : overN (l ++ [b]) c = byteN (overN l c) b := by simp [overN]

theorem xor_back (a b : Nat) : a ^^^ b ^^^ b = a := by rw [Nat.xor_assoc, Nat.xor_self, Nat.xor_zero]

theorem moreN_append (s : Nat) (l m : List UInt8) : moreN (moreN s l) m = moreN s (l ++ m) := by
  unfold moreN
  rw [xor_back, overN_append]

/- what is turned -/

theorem half_xor (a b : Nat) : (a ^^^ b) / 2 = a / 2 ^^^ b / 2 := by
  have := Nat.shiftRight_xor_distrib (a := a) (b := b) (i := 1)
  simpa [Nat.shiftRight_eq_div_pow] using this

theorem low_xor (a b : Nat) : (a ^^^ b) % 2 = (a % 2 + b % 2) % 2 := by
  have h : (a ^^^ b) % 2 ^ 1 = a % 2 ^ 1 ^^^ b % 2 ^ 1 := Nat.xor_mod_two_pow
  rw [Nat.pow_one] at h
  rw [h]
  rcases Nat.mod_two_eq_zero_or_one a with ha | ha <;> rcases Nat.mod_two_eq_zero_or_one b with hb | hb <;> rw [ha, hb] <;> rfl

theorem bit1_xor (a b : Nat) : bit1 (a ^^^ b) = bit1 a ^^^ bit1 b := by
  have hl := low_xor a b
  have hh := half_xor a b
  unfold bit1
  rcases Nat.mod_two_eq_zero_or_one a with ha | ha <;> rcases Nat.mod_two_eq_zero_or_one b with hb | hb <;> rw [hl, hh, ha, hb] <;> simp only [Nat.zero_add, Nat.add_zero, Nat.reduceAdd, Nat.reduceMod, Nat.zero_ne_one, if_true, if_false]
  · rw [Nat.xor_assoc]
  · rw [Nat.xor_assoc, Nat.xor_assoc, Nat.xor_comm (b / 2)]
  · rw [Nat.xor_assoc, Nat.xor_comm (b / 2), ← Nat.xor_assoc 3988292384, Nat.xor_self, Nat.zero_xor]

theorem bitsN_xor (n a b : Nat) : bitsN n (a ^^^ b) = bitsN n a ^^^ bitsN n b := by
  induction n with
  | zero => rfl
  | succ n ih => simp only [bitsN, ih, bit1_xor]

/-- Three texts of one length, and the one that is turned by two of them. -/
def turn3 (a b c : List UInt8) : List UInt8 := List.zipWith (· ^^^ ·) (List.zipWith (· ^^^ ·) a b) c

theorem byteN_xor3 (x y z : Nat) (a b c : UInt8) : byteN (x ^^^ y ^^^ z) (a ^^^ b ^^^ c) = byteN x a ^^^ byteN y b ^^^ byteN z c := by
  unfold byteN
  rw [← bitsN_xor, ← bitsN_xor]
  congr 1
  simp only [UInt8.toNat_xor]
  ac_rfl

theorem overN_xor3 : ∀ (a b c : List UInt8) (x y z : Nat), b.length = a.length → c.length = a.length → overN (turn3 a b c) (x ^^^ y ^^^ z) = overN a x ^^^ overN b y ^^^ overN c z
  | [], [], [], x, y, z, _, _ => rfl
  | a :: as, b :: bs, c :: cs, x, y, z, h1, h2 => by
    have := overN_xor3 as bs cs (byteN x a) (byteN y b) (byteN z c) (by simpa using h1) (by simpa using h2)
    rw [← byteN_xor3] at this
    exact this

theorem moreN_xor3 (a b c : List UInt8) (h1 : b.length = a.length) (h2 : c.length = a.length) : moreN 0 (turn3 a b c) = moreN 0 a ^^^ moreN 0 b ^^^ moreN 0 c := by
  unfold moreN
  have e : (0 ^^^ 4294967295 : Nat) = (0 ^^^ 4294967295) ^^^ (0 ^^^ 4294967295) ^^^ (0 ^^^ 4294967295) := by decide
  rw [e, overN_xor3 a b c _ _ _ h1 h2]
  generalize overN a _ = p
  generalize overN b _ = q
  generalize overN c _ = r
  have e2 : (4294967295 : Nat) = 4294967295 ^^^ 4294967295 ^^^ 4294967295 := by decide
  generalize (4294967295 : Nat) = m at e2 ⊢
  rw (config := {occs := .pos [1]}) [e2]
  ac_rfl

/- a burst -/

theorem bit1_inj (a b : Nat) (ha : a < 4294967296) (hb : b < 4294967296) (h : bit1 a = bit1 b) : a = b := by
  have h0 : bit1 (a ^^^ b) = 0 := by rw [bit1_xor, h, Nat.xor_self]
  have hx := xor_lt a b ha hb
  have hz : a ^^^ b = 0 := by
    generalize a ^^^ b = x at h0 hx
    unfold bit1 at h0
    split at h0
    · have e : x / 2 = 3988292384 := by
        have := congrArg (· ^^^ 3988292384) h0
        simp only [xor_back, Nat.zero_xor] at this
        exact this
      omega
    · omega
  have := congrArg (· ^^^ b) hz
  simpa [xor_back] using this

theorem bitsN_inj (n a b : Nat) (ha : a < 4294967296) (hb : b < 4294967296) (h : bitsN n a = bitsN n b) : a = b := by
  induction n with
  | zero => exact h
  | succ n ih => exact ih (bit1_inj _ _ (bitsN_lt n a ha) (bitsN_lt n b hb) h)

theorem overN_inj (l : List UInt8) : ∀ a b, a < 4294967296 → b < 4294967296 → overN l a = overN l b → a = b := by
  induction l with
  | nil => intro a b _ _ h; exact h
  | cons v l ih =>
    intro a b ha hb h
    have hv : v.toNat < 4294967296 := Nat.lt_trans v.toNat_lt (by decide)
    have h2 := bitsN_inj 8 _ _ (xor_lt _ _ ha hv) (xor_lt _ _ hb hv) (ih _ _ (byteN_lt a v ha) (byteN_lt b v hb) h)
    have := congrArg (· ^^^ v.toNat) h2
    simpa [xor_back] using this

theorem bitsN_add (m n c : Nat) : bitsN (m + n) c = bitsN m (bitsN n c) := by
  induction m with
  | zero => simp [bitsN]
  | succ m ih => rw [Nat.add_right_comm, bitsN, ih]; rfl

/-- What is so many bits high comes down. -/
theorem bitsN_high (n c : Nat) : bitsN n (c * 2 ^ n) = c := by
  induction n with
  | zero => simp [bitsN]
  | succ n ih =>
    rw [show n + 1 = n + 1 from rfl, bitsN_add n 1, show bitsN 1 (c * 2 ^ (n + 1)) = c * 2 ^ n from ?_]
    · exact ih
    · have e : c * 2 ^ (n + 1) = c * 2 ^ n * 2 := by rw [Nat.pow_succ, Nat.mul_assoc]
      simp only [bitsN, bit1, e]
      rw [if_neg (by omega)]
      omega

/-- Four bytes are their number, 32 bits of it. -/
theorem four (a b c d : UInt8) (x : Nat) : overN [a, b, c, d] x = bitsN 32 (x ^^^ (a.toNat ^^^ b.toNat * 2 ^ 8 ^^^ c.toNat * 2 ^ 16 ^^^ d.toNat * 2 ^ 24)) := by
  have e32 : ∀ y, bitsN 32 y = bitsN 8 (bitsN 8 (bitsN 8 (bitsN 8 y))) := fun y => by rw [← bitsN_add, ← bitsN_add, ← bitsN_add]
  have hb : bitsN 8 (b.toNat * 2 ^ 8) = b.toNat := bitsN_high 8 _
  have hc : bitsN 8 (bitsN 8 (c.toNat * 2 ^ 16)) = c.toNat := by rw [← bitsN_add]; exact bitsN_high 16 _
  have hd : bitsN 8 (bitsN 8 (bitsN 8 (d.toNat * 2 ^ 24))) = d.toNat := by rw [← bitsN_add, ← bitsN_add]; exact bitsN_high 24 _
  rw [e32]
  simp only [overN, List.foldl, byteN, bitsN_xor, hb, hc, hd, ← Nat.xor_assoc]

/-- The number of four bytes. -/
def num4 (a b c d : UInt8) : Nat := a.toNat ^^^ b.toNat * 2 ^ 8 ^^^ c.toNat * 2 ^ 16 ^^^ d.toNat * 2 ^ 24

theorem num4_bv (a b c d : UInt8) : num4 a b c d = a.toNat + b.toNat * 2 ^ 8 + c.toNat * 2 ^ 16 + d.toNat * 2 ^ 24 := by
  have step : ∀ (i x y : Nat), x < 2 ^ i → x ^^^ y * 2 ^ i = x + y * 2 ^ i := fun i x y hx => by
    have h1 : x ^^^ y * 2 ^ i = x ||| y * 2 ^ i := by
      apply Nat.eq_of_testBit_eq
      intro j
      rw [Nat.testBit_xor, Nat.testBit_or]
      by_cases hj : j < i
      · have : (y * 2 ^ i).testBit j = false := by rw [Nat.testBit_mul_two_pow]; simp; omega
        simp [this]
      · have : x.testBit j = false := Nat.testBit_lt_two_pow (Nat.lt_of_lt_of_le hx (Nat.pow_le_pow_right (by omega) (by omega)))
        simp [this]
    rw [h1, Nat.or_comm, Nat.mul_comm, ← Nat.two_pow_add_eq_or_of_lt hx, Nat.add_comm]
  have ha := a.toNat_lt
  have hb := b.toNat_lt
  have hc := c.toNat_lt
  have hd := d.toNat_lt
  unfold num4
  rw [step 8 _ _ (by omega), step 16 _ _ (by omega), step 24 _ _ (by omega)]

theorem num4_zero (a b c d : UInt8) (h : num4 a b c d = 0) : a = 0 ∧ b = 0 ∧ c = 0 ∧ d = 0 := by
  rw [num4_bv] at h
  refine ⟨?_, ?_, ?_, ?_⟩ <;> (apply UInt8.toNat_inj.1; simp; omega)

theorem num4_lt (a b c d : UInt8) : num4 a b c d < 4294967296 := by
  rw [num4_bv]
  have ha := a.toNat_lt
  have hb := b.toNat_lt
  have hc := c.toNat_lt
  have hd := d.toNat_lt
  omega

theorem num4_xor (a b c d p q r s : UInt8) : num4 (a ^^^ p) (b ^^^ q) (c ^^^ r) (d ^^^ s) = num4 a b c d ^^^ num4 p q r s := by
  have e : ∀ (i x y : Nat), (x ^^^ y) * 2 ^ i = x * 2 ^ i ^^^ y * 2 ^ i := fun i x y => by
    simp only [← Nat.shiftLeft_eq, Nat.shiftLeft_xor_distrib]
  unfold num4
  simp only [UInt8.toNat_xor, e]
  ac_rfl

/-- Four bytes that stand together are turned, not all by nothing: another sum. -/
theorem burst (l r : List UInt8) (a b c d p q r' s : UInt8) (h : ¬ (p = 0 ∧ q = 0 ∧ r' = 0 ∧ s = 0)) (x : Nat) (hx : x < 4294967296) :
    moreN x (l ++ [a ^^^ p, b ^^^ q, c ^^^ r', d ^^^ s] ++ r) ≠ moreN x (l ++ [a, b, c, d] ++ r) := by
  intro he
  unfold moreN at he
  have h1 := congrArg (· ^^^ 4294967295) he
  simp only [xor_back, overN_append, four] at h1
  have hy := overN_lt l _ (xor_lt x 4294967295 hx (by decide))
  generalize overN l (x ^^^ 4294967295) = y at h1 hy
  have k1 := num4_lt (a ^^^ p) (b ^^^ q) (c ^^^ r') (d ^^^ s)
  have k2 := num4_lt a b c d
  change overN r (bitsN 32 (y ^^^ num4 _ _ _ _)) = overN r (bitsN 32 (y ^^^ num4 _ _ _ _)) at h1
  have h2 := bitsN_inj 32 _ _ (xor_lt _ _ hy k1) (xor_lt _ _ hy k2) (overN_inj r _ _ (bitsN_lt _ _ (xor_lt _ _ hy k1)) (bitsN_lt _ _ (xor_lt _ _ hy k2)) h1)
  rw [num4_xor, ← Nat.xor_assoc] at h2
  have h3 := congrArg (fun z => (y ^^^ num4 a b c d) ^^^ z) h2
  simp only [← Nat.xor_assoc _ _ (num4 p q r' s), Nat.xor_self] at h3
  rw [Nat.zero_xor] at h3
  exact h (num4_zero _ _ _ _ h3)

end Go.Proofs.YtmeoooojmhhahaaGreat

namespace Go.Proofs.YtmeoooojmhhahaaGreat
set_option linter.unusedVariables false

/-- A record's sum: of how long it is, and of it. -/
def sumL (r : List UInt8) : Nat := moreN (moreN 0 (wide r.length 4)) r

/-- A record's frame. -/
def frameL (r : List UInt8) : List UInt8 := wide r.length 4 ++ (wide (sumL r) 4 ++ r)

theorem frameL_length (r : List UInt8) : (frameL r).length = r.length + 8 := by simp [frameL]; omega

theorem sumL_lt (r : List UInt8) : sumL r < 4294967296 := moreN_lt _ _ (moreN_lt _ _ (by omega))

def framesL (l : List (List UInt8)) : List UInt8 := l.flatMap frameL

theorem framesL_nil : framesL [] = [] := rfl
theorem framesL_cons (r : List UInt8) (l : List (List UInt8)) : framesL (r :: l) = frameL r ++ framesL l := rfl
theorem framesL_app (a b : List (List UInt8)) : framesL (a ++ b) = framesL a ++ framesL b := List.flatMap_append

/-- The record with whose frame bytes begin. -/
def scan1 (b : List UInt8) : Option (List UInt8) :=
  if b.length < 8 then none else
  if 60000 < num (b.take 4) ∨ b.length - 8 < num (b.take 4) then none else
  if frameL ((b.drop 8).take (num (b.take 4))) = b.take (8 + num (b.take 4)) then some ((b.drop 8).take (num (b.take 4))) else none

theorem take4_frame (r rest : List UInt8) : (frameL r ++ rest).take 4 = wide r.length 4 := by
  unfold frameL
  rw [List.append_assoc, List.take_append_of_le_length (by simp), List.take_of_length_le (by simp)]

theorem num_len (n : Nat) (h : n ≤ 60000) : num (wide n 4) = n := by rw [num_wide]; omega

theorem drop8_frame (r rest : List UInt8) : (frameL r ++ rest).drop 8 = r ++ rest := by
  unfold frameL
  rw [List.append_assoc, List.append_assoc, ← List.append_assoc, List.drop_append]
  simp

theorem scan1_frame (r rest : List UInt8) (h : r.length ≤ 60000) : scan1 (frameL r ++ rest) = some r := by
  have hl := frameL_length r
  unfold scan1
  rw [take4_frame, num_len _ h, drop8_frame]
  rw [if_neg (by rw [List.length_append]; omega), if_neg (by rw [List.length_append]; omega)]
  have e1 : (r ++ rest).take r.length = r := by simp
  have e2 : (frameL r ++ rest).take (8 + r.length) = frameL r := by
    rw [List.take_append_of_le_length (by omega), List.take_of_length_le (by omega)]
  rw [e1, e2, if_pos rfl]

theorem scan1_some {b r : List UInt8} (h : scan1 b = some r) : b = frameL r ++ b.drop (r.length + 8) ∧ r.length ≤ 60000 := by
  unfold scan1 at h
  split at h
  · cases h
  · rename_i h8
    split at h
    · cases h
    · rename_i hn
      split at h
      · rename_i he
        injection h with h
        have hlen : r.length = num (b.take 4) := by
          rw [← h, List.length_take, List.length_drop]
          omega
        refine ⟨?_, by omega⟩
        rw [h] at he
        rw [hlen, he, Nat.add_comm, List.take_append_drop]
      · cases h

theorem scan1_none_of {b : List UInt8} (h : ∀ r rest, r.length ≤ 60000 → b ≠ frameL r ++ rest) : scan1 b = none := by
  cases hs : scan1 b with
  | none => rfl
  | some r =>
    obtain ⟨e, hl⟩ := scan1_some hs
    exact absurd e (h _ _ hl)

/-- A frame that is cut off is none. -/
theorem scan1_cut (r : List UInt8) (k : Nat) (hk : k < r.length + 8) (h : r.length ≤ 60000) : scan1 ((frameL r).take k) = none := by
  have hl := frameL_length r
  have hlen : ((frameL r).take k).length = k := by rw [List.length_take]; omega
  unfold scan1
  rw [hlen]
  by_cases h8 : k < 8
  · rw [if_pos h8]
  · rw [if_neg h8]
    have e : ((frameL r).take k).take 4 = wide r.length 4 := by
      rw [List.take_take, show min 4 k = 4 by omega]
      have := take4_frame r []
      rwa [List.append_nil] at this
    rw [e, num_len _ h, if_pos (by omega)]

/-- The records of all whole frames, and where they end. -/
def scanG : Nat → List UInt8 → List (List UInt8) × Nat
  | 0, _ => ([], 0)
  | g + 1, b => match scan1 b with
    | none => ([], 0)
    | some r => (r :: (scanG g (b.drop (r.length + 8))).1, r.length + 8 + (scanG g (b.drop (r.length + 8))).2)

def scanL (b : List UInt8) : List (List UInt8) × Nat := scanG b.length b

theorem scanG_more : ∀ (g h : Nat) (b : List UInt8), b.length ≤ g → b.length ≤ h → scanG g b = scanG h b
  | 0, 0, _, _, _ => rfl
  | 0, h + 1, b, hg, _ => by
    have : b = [] := List.eq_nil_of_length_eq_zero (by omega)
    subst this
    rfl
  | g + 1, 0, b, _, hh => by
    have : b = [] := List.eq_nil_of_length_eq_zero (by omega)
    subst this
    rfl
  | g + 1, h + 1, b, hg, hh => by
    unfold scanG
    cases hs : scan1 b with
    | none => rfl
    | some r =>
      have := scan1_some hs
      have hl : (b.drop (r.length + 8)).length ≤ b.length - 8 := by rw [List.length_drop]; omega
      have h8 : 8 ≤ b.length := by
        have := congrArg List.length this.1
        rw [List.length_append, frameL_length] at this
        omega
      dsimp only
      rw [scanG_more g h _ (by omega) (by omega)]

theorem scanL_none {b : List UInt8} (h : scan1 b = none) : scanL b = ([], 0) := by
  unfold scanL
  cases hb : b.length with
  | zero => rfl
  | succ n => unfold scanG; rw [h]

theorem scanL_some {b r : List UInt8} (h : scan1 b = some r) : scanL b = (r :: (scanL (b.drop (r.length + 8))).1, r.length + 8 + (scanL (b.drop (r.length + 8))).2) := by
  have := scan1_some h
  have h8 : 8 ≤ b.length := by
    have := congrArg List.length this.1
    rw [List.length_append, frameL_length] at this
    omega
  obtain ⟨n, hn⟩ : ∃ n, b.length = n + 1 := ⟨b.length - 1, by omega⟩
  unfold scanL
  rw [hn]
  conv => lhs; unfold scanG
  rw [h]
  dsimp only
  rw [scanG_more n (b.drop (r.length + 8)).length _ (by rw [List.length_drop]; omega) (Nat.le_refl _)]

theorem scanL_nil : scanL [] = ([], 0) := rfl

def fit (l : List (List UInt8)) : Prop := ∀ r ∈ l, r.length ≤ 60000

theorem fit_cons {r : List UInt8} {l : List (List UInt8)} (h : fit (r :: l)) : r.length ≤ 60000 ∧ fit l :=
  ⟨h r List.mem_cons_self, fun x hx => h x (List.mem_cons_of_mem _ hx)⟩

theorem scanL_frames (l : List (List UInt8)) (h : fit l) (rest : List UInt8) : scanL (framesL l ++ rest) = (l ++ (scanL rest).1, (framesL l).length + (scanL rest).2) := by
  induction l with
  | nil => simp [framesL]
  | cons r l ih =>
    obtain ⟨h1, h2⟩ := fit_cons h
    rw [framesL_cons, List.append_assoc, scanL_some (scan1_frame r _ h1)]
    have e : (frameL r ++ (framesL l ++ rest)).drop (r.length + 8) = framesL l ++ rest := by
      rw [← frameL_length r]; simp
    rw [e, ih h2, List.length_append, frameL_length]
    simp only [List.cons_append, Nat.add_assoc]

theorem scanL_all (l : List (List UInt8)) (h : fit l) : scanL (framesL l) = (l, (framesL l).length) := by
  have := scanL_frames l h []
  rw [List.append_nil, scanL_nil, List.append_nil, Nat.add_zero] at this
  exact this

/-- Of frames that are cut off the first ones are told. -/
theorem scanL_cut (l : List (List UInt8)) (h : fit l) : ∀ k, k ≤ (framesL l).length → ∃ j, j ≤ l.length ∧ scanL ((framesL l).take k) = (l.take j, (framesL (l.take j)).length) ∧ (framesL (l.take j)).length ≤ k ∧ (k = (framesL l).length → j = l.length) := by
  induction l with
  | nil => intro k hk; exact ⟨0, Nat.le_refl _, by simp [framesL, scanL_nil], by simp [framesL], fun _ => rfl⟩
  | cons r l ih =>
    intro k hk
    obtain ⟨h1, h2⟩ := fit_cons h
    rw [framesL_cons, List.length_append, frameL_length] at hk
    rw [framesL_cons]
    by_cases hkr : k < r.length + 8
    · refine ⟨0, Nat.zero_le _, ?_, by simp [framesL], fun e => by rw [List.length_append, frameL_length] at e; omega⟩
      have e : (frameL r ++ framesL l).take k = (frameL r).take k := List.take_append_of_le_length (by rw [frameL_length]; omega)
      rw [e, scanL_none (scan1_cut r k hkr h1)]
      rfl
    · obtain ⟨j, hj, hs, hle, hall⟩ := ih h2 (k - (r.length + 8)) (by omega)
      have e : (frameL r ++ framesL l).take k = frameL r ++ (framesL l).take (k - (r.length + 8)) := by
        rw [List.take_append, frameL_length, List.take_of_length_le (by rw [frameL_length]; omega)]
      refine ⟨j + 1, by simpa using hj, ?_, ?_, fun e => ?_⟩
      · rw [e, scanL_some (scan1_frame r _ h1)]
        have e2 : (frameL r ++ (framesL l).take (k - (r.length + 8))).drop (r.length + 8) = (framesL l).take (k - (r.length + 8)) := by
          rw [← frameL_length r]; simp
        rw [e2, hs, List.take_succ_cons, framesL_cons, List.length_append, frameL_length]
      · rw [List.take_succ_cons, framesL_cons, List.length_append, frameL_length]; omega
      · rw [List.length_append, frameL_length] at e
        rw [hall (by omega)]
        rfl

theorem scanL_end (b : List UInt8) : (scanL b).2 ≤ b.length := by
  suffices ∀ n (b : List UInt8), b.length ≤ n → (scanL b).2 ≤ b.length from this b.length b (Nat.le_refl _)
  intro n
  induction n with
  | zero =>
    intro b hb
    have : b = [] := List.eq_nil_of_length_eq_zero (by omega)
    subst this
    exact Nat.le_refl _
  | succ n ih =>
    intro b hb
    cases hs : scan1 b with
    | none => rw [scanL_none hs]; exact Nat.zero_le _
    | some r =>
      obtain ⟨e, _⟩ := scan1_some hs
      have hlen := congrArg List.length e
      rw [List.length_append, frameL_length] at hlen
      have := ih (b.drop (r.length + 8)) (by rw [List.length_drop]; omega)
      rw [scanL_some hs]
      rw [List.length_drop] at this
      dsimp only
      omega

/-- What the scan told is what stands there. -/
theorem scanL_is (b : List UInt8) : b.take (scanL b).2 = framesL (scanL b).1 ∧ fit (scanL b).1 := by
  suffices ∀ n (b : List UInt8), b.length ≤ n → b.take (scanL b).2 = framesL (scanL b).1 ∧ fit (scanL b).1 from this b.length b (Nat.le_refl _)
  intro n
  induction n with
  | zero =>
    intro b hb
    have : b = [] := List.eq_nil_of_length_eq_zero (by omega)
    subst this
    exact ⟨rfl, fun r hr => by cases hr⟩
  | succ n ih =>
    intro b hb
    cases hs : scan1 b with
    | none => rw [scanL_none hs]; exact ⟨rfl, fun r hr => by cases hr⟩
    | some r =>
      obtain ⟨e, hr⟩ := scan1_some hs
      have hlen := congrArg List.length e
      rw [List.length_append, frameL_length] at hlen
      obtain ⟨h1, h2⟩ := ih (b.drop (r.length + 8)) (by rw [List.length_drop]; omega)
      rw [scanL_some hs]
      refine ⟨?_, fun x hx => ?_⟩
      · dsimp only
        have e2 : ∀ m, b.take (r.length + 8 + m) = frameL r ++ (b.drop (r.length + 8)).take m := fun m => by
          conv => lhs; rw [e]
          rw [List.take_append, frameL_length, List.take_of_length_le (by rw [frameL_length]; omega), Nat.add_sub_cancel_left]
        rw [framesL_cons, ← h1, e2]
      · rcases List.mem_cons.1 hx with rfl | hx
        · exact hr
        · exact h2 x hx

end Go.Proofs.YtmeoooojmhhahaaGreat

namespace Go.Proofs.YtmeoooojmhhahaaGreat
set_option linter.unusedVariables false

theorem wide_snoc (v : Nat) (b : UInt8) (n : Nat) : wide (v * 256 + b.toNat) (n + 1) = wide v n ++ [b] := by
  have hb : b.toNat < 256 := b.toNat_lt
  induction n with
  | zero =>
    simp only [wide, Nat.pow_zero, Nat.div_one, List.nil_append, List.cons.injEq, and_true]
    apply UInt8.toNat_inj.1
    simp
  | succ n ih =>
    rw [wide, ih, wide, List.cons_append]
    congr 2
    rw [Nat.pow_succ', ← Nat.div_div_eq_div_mul]
    congr 1
    omega

theorem wide_num4 (l : List UInt8) (h : l.length = 4) : wide (num l) 4 = l := by
  match l, h with
  | [a, b, c, d], _ =>
    have e : num [a, b, c, d] = (((0 * 256 + a.toNat) * 256 + b.toNat) * 256 + c.toNat) * 256 + d.toNat := rfl
    rw [e, wide_snoc, wide_snoc, wide_snoc, wide_snoc]
    rfl

theorem scan1_big (l : List UInt8) (n : Nat) (hn : num (l.take 4) = n) (h : 60000 < n ∨ l.length < 8 + n) : scan1 l = none := by
  unfold scan1
  split
  · rfl
  · rw [if_pos (by rw [hn]; omega)]

theorem scan1_little (l : List UInt8) (h : l.length < 8) : scan1 l = none := by
  unfold scan1
  rw [if_pos h]

theorem scan1_is (l : List UInt8) (n : Nat) (hn : num (l.take 4) = n) (h6 : n ≤ 60000) (h8 : 8 + n ≤ l.length) :
    scan1 l = if num ((l.drop 4).take 4) = moreN (moreN 0 (l.take 4)) ((l.drop 8).take n) then some ((l.drop 8).take n) else none := by
  unfold scan1
  rw [if_neg (by omega), hn, if_neg (by omega)]
  have hr : ((l.drop 8).take n).length = n := by simp; omega
  have e4 : (l.take 4).length = 4 := by simp; omega
  have e44 : ((l.drop 4).take 4).length = 4 := by simp; omega
  have ew : wide n 4 = l.take 4 := by rw [← hn]; exact wide_num4 _ e4
  have et : l.take (8 + n) = l.take 4 ++ ((l.drop 4).take 4 ++ (l.drop 8).take n) := by
    rw [show 8 + n = 4 + (4 + n) by omega, List.take_add, List.take_add, List.drop_drop]
  have es : sumL ((l.drop 8).take n) = moreN (moreN 0 (l.take 4)) ((l.drop 8).take n) := by unfold sumL; rw [hr, ew]
  have ef : frameL ((l.drop 8).take n) = l.take 4 ++ (wide (sumL ((l.drop 8).take n)) 4 ++ (l.drop 8).take n) := by unfold frameL; rw [hr, ew]
  have hiff : (frameL ((l.drop 8).take n) = l.take (8 + n)) ↔ num ((l.drop 4).take 4) = moreN (moreN 0 (l.take 4)) ((l.drop 8).take n) := by
    rw [ef, et, ← es]
    constructor
    · intro h
      have h2 := List.append_cancel_left h
      have h3 := (List.append_inj h2 (by simp [e44])).1
      rw [← h3, num_wide]
      have := sumL_lt ((l.drop 8).take n)
      omega
    · intro h
      rw [← h, wide_num4 _ e44]
  by_cases h : frameL ((l.drop 8).take n) = l.take (8 + n)
  · rw [if_pos h, if_pos (hiff.1 h)]
  · rw [if_neg h, if_neg (fun e => h (hiff.2 e))]

end Go.Proofs.YtmeoooojmhhahaaGreat

namespace Go.Proofs.YtmeoooojmhhahaaGreat
set_option linter.unusedVariables false

theorem ext_list (s : ByteArray) (a b : Nat) : (s.extract a b).data.toList = (s.data.toList.drop a).take (b - a) := by
  rw [ByteArray.data_extract, Array.toList_extract, List.extract_eq_take_drop]

theorem size_list (s : ByteArray) : s.data.toList.length = s.size := by simp

/-- The bytes from a to b. -/
def part (l : List UInt8) (a b : Nat) : List UInt8 := (l.drop a).take (b - a)

theorem part_length (l : List UInt8) (a b : Nat) (h1 : a ≤ b) (h2 : b ≤ l.length) : (part l a b).length = b - a := by
  simp [part]; omega

theorem take_drop (l : List UInt8) (k n : Nat) : (l.drop k).take n = part l k (k + n) := by
  rw [part, Nat.add_sub_cancel_left]

/-- Too little is left. -/
theorem scan_short (l : List UInt8) (k : Nat) (h : l.length < k + 8) : scanL (l.drop k) = ([], 0) := by
  apply scanL_none
  unfold scan1
  rw [if_pos (by rw [List.length_drop]; omega)]

/-- What is told to be its length is wrong. -/
theorem scan_wrong (l : List UInt8) (k n : Nat) (hk : k + 8 ≤ l.length) (hn : num (part l k (k + 4)) = n) (h : 60000 < n ∨ l.length < k + 8 + n) : scanL (l.drop k) = ([], 0) := by
  apply scanL_none
  unfold scan1
  rw [take_drop, hn, if_neg (by rw [List.length_drop]; omega), if_pos (by rw [List.length_drop]; omega)]

theorem drop_take2 (l : List UInt8) (k n : Nat) : ((l.drop k).drop 8).take n = part l (k + 8) (k + 8 + n) := by
  rw [List.drop_drop, take_drop]

theorem scan_else (l : List UInt8) (k n : Nat) (hn : num (part l k (k + 4)) = n) (h : frameL (part l (k + 8) (k + 8 + n)) ≠ part l k (k + 8 + n)) : scanL (l.drop k) = ([], 0) := by
  apply scanL_none
  unfold scan1
  rw [take_drop, hn]
  split
  · rfl
  · split
    · rfl
    · rw [drop_take2, take_drop, if_neg (by rw [← Nat.add_assoc]; exact h)]

theorem scan_next (l : List UInt8) (k n : Nat) (hn : num (part l k (k + 4)) = n) (hk : k + 8 + n ≤ l.length) (h6 : n ≤ 60000) (h : frameL (part l (k + 8) (k + 8 + n)) = part l k (k + 8 + n)) :
    scanL (l.drop k) = (part l (k + 8) (k + 8 + n) :: (scanL (l.drop (k + 8 + n))).1, 8 + n + (scanL (l.drop (k + 8 + n))).2) := by
  have h1 : scan1 (l.drop k) = some (part l (k + 8) (k + 8 + n)) := by
    unfold scan1
    rw [take_drop, hn, if_neg (by rw [List.length_drop]; omega), if_neg (by rw [List.length_drop]; omega), drop_take2, take_drop, if_pos (by rw [← Nat.add_assoc]; exact h)]
  rw [scanL_some h1, part_length _ _ _ (by omega) (by omega), List.drop_drop]
  have e1 : k + (k + 8 + n - (k + 8) + 8) = k + 8 + n := by omega
  have e2 : k + 8 + n - (k + 8) + 8 = 8 + n := by omega
  rw [e1, e2]

/-- What was told up to place k. -/
structure Told (l : List UInt8) (k : Nat) (ls : List (List UInt8)) : Prop where
  le : k ≤ l.length
  all : scanL l = (ls ++ (scanL (l.drop k)).1, k + (scanL (l.drop k)).2)

theorem Told.start (l : List UInt8) : Told l 0 [] := ⟨Nat.zero_le _, by simp⟩

theorem Told.next {l : List UInt8} {k n : Nat} {ls : List (List UInt8)} (h : Told l k ls) (hn : num (part l k (k + 4)) = n) (hk : k + 8 + n ≤ l.length) (h6 : n ≤ 60000) (hf : frameL (part l (k + 8) (k + 8 + n)) = part l k (k + 8 + n)) :
    Told l (k + 8 + n) (ls ++ [part l (k + 8) (k + 8 + n)]) := by
  refine ⟨hk, ?_⟩
  rw [h.all, scan_next l k n hn hk h6 hf, List.append_assoc, List.singleton_append]
  congr 1
  omega

theorem Told.done {l : List UInt8} {k : Nat} {ls : List (List UInt8)} (h : Told l k ls) (hs : scanL (l.drop k) = ([], 0)) : scanL l = (ls, k) := by
  rw [h.all, hs, List.append_nil, Nat.add_zero]

end Go.Proofs.YtmeoooojmhhahaaGreat
