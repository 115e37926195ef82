/- Sums of 32 bits, as numbers. -/
namespace Go.Proofs.Ytnkfdnehkihbeaa

/-- Half, and turned if the lowest bit was 1. -/
def bit1 (c : Nat) : Nat := if c % 2 = 1 then c / 2 ^^^ 3988292384 else c / 2

/-- So many times. -/
def bitsN : Nat → Nat → Nat
  | 0, c => c
  | n + 1, c => bit1 (bitsN n c)

/-- A byte more. -/
def byteN (c : Nat) (b : UInt8) : Nat := bitsN 8 (c ^^^ b.toNat)

def overN (l : List UInt8) (c : Nat) : Nat := l.foldl byteN c

def moreN (s : Nat) (l : List UInt8) : Nat := overN l (s ^^^ 4294967295) ^^^ 4294967295

theorem bit1_lt (c : Nat) (h : c < 4294967296) : bit1 c < 4294967296 := by
  unfold bit1
  split
  · exact Nat.xor_lt_two_pow (n := 32) (by omega) (by omega)
  · omega

theorem bitsN_lt (n c : Nat) (h : c < 4294967296) : bitsN n c < 4294967296 := by
  induction n with
  | zero => exact h
  | succ n ih => exact bit1_lt _ ih

theorem xor_lt (a b : Nat) (ha : a < 4294967296) (hb : b < 4294967296) : a ^^^ b < 4294967296 := Nat.xor_lt_two_pow (n := 32) ha hb

theorem byteN_lt (c : Nat) (b : UInt8) (h : c < 4294967296) : byteN c b < 4294967296 :=
  bitsN_lt _ _ (xor_lt _ _ h (Nat.lt_trans b.toNat_lt (by decide)))

theorem overN_lt (l : List UInt8) : ∀ c, c < 4294967296 → overN l c < 4294967296 := by
  induction l with
  | nil => intro c h; exact h
  | cons b l ih => intro c h; exact ih _ (byteN_lt c b h)

theorem moreN_lt (s : Nat) (l : List UInt8) (h : s < 4294967296) : moreN s l < 4294967296 :=
  xor_lt _ _ (overN_lt l _ (xor_lt _ _ h (by decide))) (by decide)

theorem overN_append (l m : List UInt8) (c : Nat) : overN (l ++ m) c = overN m (overN l c) := by simp [overN]

theorem overN_snoc (l : List UInt8) (b : UInt8) (c : Nat) : overN (l ++ [b]) c = byteN (overN l c) b := by simp [overN]

theorem xor_back (a b : Nat) : a ^^^ b ^^^ b = a := by rw [Nat.xor_assoc, Nat.xor_self, Nat.xor_zero]

theorem moreN_append (s : Nat) (l m : List UInt8) : moreN (moreN s l) m = moreN s (l ++ m) := by
  unfold moreN
  rw [xor_back, overN_append]

/- what is turned -/

theorem half_xor (a b : Nat) : (a ^^^ b) / 2 = a / 2 ^^^ b / 2 := by
  have := Nat.shiftRight_xor_distrib (a := a) (b := b) (i := 1)
  simpa [Nat.shiftRight_eq_div_pow] using this

theorem low_xor (a b : Nat) : (a ^^^ b) % 2 = (a % 2 + b % 2) % 2 := by
  have h : (a ^^^ b) % 2 ^ 1 = a % 2 ^ 1 ^^^ b % 2 ^ 1 := Nat.xor_mod_two_pow
  rw [Nat.pow_one] at h
  rw [h]
  rcases Nat.mod_two_eq_zero_or_one a with ha | ha <;> rcases Nat.mod_two_eq_zero_or_one b with hb | hb <;> rw [ha, hb] <;> rfl

theorem bit1_xor (a b : Nat) : bit1 (a ^^^ b) = bit1 a ^^^ bit1 b := by
  have hl := low_xor a b
  have hh := half_xor a b
  unfold bit1
  rcases Nat.mod_two_eq_zero_or_one a with ha | ha <;> rcases Nat.mod_two_eq_zero_or_one b with hb | hb <;> rw [hl, hh, ha, hb] <;> simp only [Nat.zero_add, Nat.add_zero, Nat.reduceAdd, Nat.reduceMod, Nat.zero_ne_one, if_true, if_false]
  · rw [Nat.xor_assoc]
  · rw [Nat.xor_assoc, Nat.xor_assoc, Nat.xor_comm (b / 2)]
  · rw [Nat.xor_assoc, Nat.xor_comm (b / 2), ← Nat.xor_assoc 3988292384, Nat.xor_self, Nat.zero_xor]

theorem bitsN_xor (n a b : Nat) : bitsN n (a ^^^ b) = bitsN n a ^^^ bitsN n b := by
  induction n with
  | zero => rfl
  | succ n ih => simp only [bitsN, ih, bit1_xor]

/-- Three texts of one length, and the one that is turned by two of them. -/
def turn3 (a b c : List UInt8) : List UInt8 := List.zipWith (· ^^^ ·) (List.zipWith (· ^^^ ·) a b) c

theorem byteN_xor3 (x y z : Nat) (a b c : UInt8) : byteN (x ^^^ y ^^^ z) (a ^^^ b ^^^ c) = byteN x a ^^^ byteN y b ^^^ byteN z c := by
  unfold byteN
  rw [← bitsN_xor, ← bitsN_xor]
  congr 1
  simp only [UInt8.toNat_xor]
  ac_rfl

theorem overN_xor3 : ∀ (a b c : List UInt8) (x y z : Nat), b.length = a.length → c.length = a.length → overN (turn3 a b c) (x ^^^ y ^^^ z) = overN a x ^^^ overN b y ^^^ overN c z
  | [], [], [], x, y, z, _, _ => rfl
  | a :: as, b :: bs, c :: cs, x, y, z, h1, h2 => by
    have := overN_xor3 as bs cs (byteN x a) (byteN y b) (byteN z c) (by simpa using h1) (by simpa using h2)
    rw [← byteN_xor3] at this
    exact this

theorem moreN_xor3 (a b c : List UInt8) (h1 : b.length = a.length) (h2 : c.length = a.length) : moreN 0 (turn3 a b c) = moreN 0 a ^^^ moreN 0 b ^^^ moreN 0 c := by
  unfold moreN
  have e : (0 ^^^ 4294967295 : Nat) = (0 ^^^ 4294967295) ^^^ (0 ^^^ 4294967295) ^^^ (0 ^^^ 4294967295) := by decide
  rw [e, overN_xor3 a b c _ _ _ h1 h2]
  generalize overN a _ = p
  generalize overN b _ = q
  generalize overN c _ = r
  have e2 : (4294967295 : Nat) = 4294967295 ^^^ 4294967295 ^^^ 4294967295 := by decide
  generalize (4294967295 : Nat) = m at e2 ⊢
  rw (config := {occs := .pos [1]}) [e2]
  ac_rfl

/- a burst -/

theorem bit1_inj (a b : Nat) (ha : a < 4294967296) (hb : b < 4294967296) (h : bit1 a = bit1 b) : a = b := by
  have h0 : bit1 (a ^^^ b) = 0 := by rw [bit1_xor, h, Nat.xor_self]
  have hx := xor_lt a b ha hb
  have hz : a ^^^ b = 0 := by
    generalize a ^^^ b = x at h0 hx
    unfold bit1 at h0
    split at h0
    · have e : x / 2 = 3988292384 := by
        have := congrArg (· ^^^ 3988292384) h0
        simp only [xor_back, Nat.zero_xor] at this
        exact this
      omega
    · omega
  have := congrArg (· ^^^ b) hz
  simpa [xor_back] using this

theorem bitsN_inj (n a b : Nat) (ha : a < 4294967296) (hb : b < 4294967296) (h : bitsN n a = bitsN n b) : a = b := by
  induction n with
  | zero => exact h
  | succ n ih => exact ih (bit1_inj _ _ (bitsN_lt n a ha) (bitsN_lt n b hb) h)

theorem overN_inj (l : List UInt8) : ∀ a b, a < 4294967296 → b < 4294967296 → overN l a = overN l b → a = b := by
  induction l with
  | nil => intro a b _ _ h; exact h
  | cons v l ih =>
    intro a b ha hb h
    have hv : v.toNat < 4294967296 := Nat.lt_trans v.toNat_lt (by decide)
    have h2 := bitsN_inj 8 _ _ (xor_lt _ _ ha hv) (xor_lt _ _ hb hv) (ih _ _ (byteN_lt a v ha) (byteN_lt b v hb) h)
    have := congrArg (· ^^^ v.toNat) h2
    simpa [xor_back] using this

theorem bitsN_add (m n c : Nat) : bitsN (m + n) c = bitsN m (bitsN n c) := by
  induction m with
  | zero => simp [bitsN]
  | succ m ih => rw [Nat.add_right_comm, bitsN, ih]; rfl

/-- What is so many bits high comes down. -/
theorem bitsN_high (n c : Nat) : bitsN n (c * 2 ^ n) = c := by
  induction n with
  | zero => simp [bitsN]
  | succ n ih =>
    rw [show n + 1 = n + 1 from rfl, bitsN_add n 1, show bitsN 1 (c * 2 ^ (n + 1)) = c * 2 ^ n from ?_]
    · exact ih
    · have e : c * 2 ^ (n + 1) = c * 2 ^ n * 2 := by rw [Nat.pow_succ, Nat.mul_assoc]
      simp only [bitsN, bit1, e]
      rw [if_neg (by omega)]
      omega

/-- Four bytes are their number, 32 bits of it. -/
theorem four (a b c d : UInt8) (x : Nat) : overN [a, b, c, d] x = bitsN 32 (x ^^^ (a.toNat ^^^ b.toNat * 2 ^ 8 ^^^ c.toNat * 2 ^ 16 ^^^ d.toNat * 2 ^ 24)) := by
  have e32 : ∀ y, bitsN 32 y = bitsN 8 (bitsN 8 (bitsN 8 (bitsN 8 y))) := fun y => by rw [← bitsN_add, ← bitsN_add, ← bitsN_add]
  have hb : bitsN 8 (b.toNat * 2 ^ 8) = b.toNat := bitsN_high 8 _
  have hc : bitsN 8 (bitsN 8 (c.toNat * 2 ^ 16)) = c.toNat := by rw [← bitsN_add]; exact bitsN_high 16 _
  have hd : bitsN 8 (bitsN 8 (bitsN 8 (d.toNat * 2 ^ 24))) = d.toNat := by rw [← bitsN_add, ← bitsN_add]; exact bitsN_high 24 _
  rw [e32]
  simp only [overN, List.foldl, byteN, bitsN_xor, hb, hc, hd, ← Nat.xor_assoc]

/-- The number of four bytes. -/
def num4 (a b c d : UInt8) : Nat := a.toNat ^^^ b.toNat * 2 ^ 8 ^^^ c.toNat * 2 ^ 16 ^^^ d.toNat * 2 ^ 24

theorem num4_bv (a b c d : UInt8) : num4 a b c d = a.toNat + b.toNat * 2 ^ 8 + c.toNat * 2 ^ 16 + d.toNat * 2 ^ 24 := by
  have step : ∀ (i x y : Nat), x < 2 ^ i → x ^^^ y * 2 ^ i = x + y * 2 ^ i := fun i x y hx => by
    have h1 : x ^^^ y * 2 ^ i = x ||| y * 2 ^ i := by
      apply Nat.eq_of_testBit_eq
      intro j
      rw [Nat.testBit_xor, Nat.testBit_or]
      by_cases hj : j < i
      · have : (y * 2 ^ i).testBit j = false := by rw [Nat.testBit_mul_two_pow]; simp; omega
        simp [this]
      · have : x.testBit j = false := Nat.testBit_lt_two_pow (Nat.lt_of_lt_of_le hx (Nat.pow_le_pow_right (by omega) (by omega)))
        simp [this]
    rw [h1, Nat.or_comm, Nat.mul_comm, ← Nat.two_pow_add_eq_or_of_lt hx, Nat.add_comm]
  have ha := a.toNat_lt
  have hb := b.toNat_lt
  have hc := c.toNat_lt
  have hd := d.toNat_lt
  unfold num4
  rw [step 8 _ _ (by omega), step 16 _ _ (by omega), step 24 _ _ (by omega)]

theorem num4_zero (a b c d : UInt8) (h : num4 a b c d = 0) : a = 0 ∧ b = 0 ∧ c = 0 ∧ d = 0 := by
  rw [num4_bv] at h
  refine ⟨?_, ?_, ?_, ?_⟩ <;> (apply UInt8.toNat_inj.1; simp; omega)

theorem num4_lt (a b c d : UInt8) : num4 a b c d < 4294967296 := by
  rw [num4_bv]
  have ha := a.toNat_lt
  have hb := b.toNat_lt
  have hc := c.toNat_lt
  have hd := d.toNat_lt
  omega

theorem num4_xor (a b c d p q r s : UInt8) : num4 (a ^^^ p) (b ^^^ q) (c ^^^ r) (d ^^^ s) = num4 a b c d ^^^ num4 p q r s := by
  have e : ∀ (i x y : Nat), (x ^^^ y) * 2 ^ i = x * 2 ^ i ^^^ y * 2 ^ i := fun i x y => by
    simp only [← Nat.shiftLeft_eq, Nat.shiftLeft_xor_distrib]
  unfold num4
  simp only [UInt8.toNat_xor, e]
  ac_rfl

/-- Four bytes that stand together are turned, not all by nothing: another sum. -/
theorem burst (l r : List UInt8) (a b c d p q r' s : UInt8) (h : ¬ (p = 0 ∧ q = 0 ∧ r' = 0 ∧ s = 0)) (x : Nat) (hx : x < 4294967296) :
    moreN x (l ++ [a ^^^ p, b ^^^ q, c ^^^ r', d ^^^ s] ++ r) ≠ moreN x (l ++ [a, b, c, d] ++ r) := by
  intro he
  unfold moreN at he
  have h1 := congrArg (· ^^^ 4294967295) he
  simp only [xor_back, overN_append, four] at h1
  have hy := overN_lt l _ (xor_lt x 4294967295 hx (by decide))
  generalize overN l (x ^^^ 4294967295) = y at h1 hy
  have k1 := num4_lt (a ^^^ p) (b ^^^ q) (c ^^^ r') (d ^^^ s)
  have k2 := num4_lt a b c d
  change overN r (bitsN 32 (y ^^^ num4 _ _ _ _)) = overN r (bitsN 32 (y ^^^ num4 _ _ _ _)) at h1
  have h2 := bitsN_inj 32 _ _ (xor_lt _ _ hy k1) (xor_lt _ _ hy k2) (overN_inj r _ _ (bitsN_lt _ _ (xor_lt _ _ hy k1)) (bitsN_lt _ _ (xor_lt _ _ hy k2)) h1)
  rw [num4_xor, ← Nat.xor_assoc] at h2
  have h3 := congrArg (fun z => (y ^^^ num4 a b c d) ^^^ z) h2
  simp only [← Nat.xor_assoc _ _ (num4 p q r' s), Nat.xor_self] at h3
  rw [Nat.zero_xor] at h3
  exact h (num4_zero _ _ _ _ h3)

end Go.Proofs.Ytnkfdnehkihbeaa
