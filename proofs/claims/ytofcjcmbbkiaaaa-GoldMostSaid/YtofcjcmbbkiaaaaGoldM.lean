/-
  The scrambling sequences: the mathematics. A register of 31 bits as a number: bit i is element n + i of its sequence.
-/
import Derived.Below
namespace Go.Proofs.Ytofcjcmbbkiaaaa

/-- What comes in at the top. -/
def fb1 (s : Nat) : Nat := (s / 8 + s) % 2
def fb2 (s : Nat) : Nat := (s / 8 + s / 4 + s / 2 + s) % 2
theorem fb1_le (s : Nat) : fb1 s ≤ 1 := by unfold fb1; omega
theorem fb2_le (s : Nat) : fb2 s ≤ 1 := by unfold fb2; omega
def lf (f : Nat → Nat) (s : Nat) : Nat := s / 2 + 1073741824 * f s
def regN (f : Nat → Nat) (s : Nat) : Nat → Nat
  | 0 => s
  | n + 1 => lf f (regN f s n)
/-- Element n. -/
def elN (f : Nat → Nat) (s n : Nat) : Nat := regN f s n % 2
section
variable {f : Nat → Nat} {s : Nat}
theorem lf_lt (hf : ∀ s, f s ≤ 1) (h : s < 2147483648) : lf f s < 2147483648 := by
  have := hf s
  unfold lf
  omega
theorem regN_lt (hf : ∀ s, f s ≤ 1) (h : s < 2147483648) (n : Nat) : regN f s n < 2147483648 := by
  induction n with
  | zero => exact h
  | succ n ih => exact lf_lt hf ih
theorem regN_add (n m : Nat) : regN f s (n + m) = regN f (regN f s n) m := by
  induction m with
  | zero => rfl
  | succ m ih =>
    show lf f (regN f s (n + m)) = lf f (regN f (regN f s n) m)
    rw [ih]
theorem elN_le (n : Nat) : elN f s n ≤ 1 := by unfold elN; omega
theorem pow30 {i : Nat} (h : i < 30) : 1073741824 = 2 ^ i * (2 * 2 ^ (29 - i)) := by
  rw [← Nat.pow_succ', ← Nat.pow_add, show i + (29 - i).succ = 30 by omega]
theorem lf_bit (i : Nat) (h : i < 30) : lf f s / 2 ^ i % 2 = s / 2 ^ (i + 1) % 2 := by
  unfold lf
  rw [pow30 h, Nat.mul_assoc, Nat.add_mul_div_left _ _ (Nat.two_pow_pos i), Nat.mul_assoc, Nat.add_mul_mod_self_left, Nat.div_div_eq_div_mul, ← Nat.pow_succ']
/-- Bit i of the register is element n + i. -/
theorem regN_bit (n i : Nat) (h : i < 31) : regN f s n / 2 ^ i % 2 = elN f s (n + i) := by
  induction i generalizing n with
  | zero => simp [elN]
  | succ i ih =>
    rw [← lf_bit (f := f) i (by omega)]
    show regN f s (n + 1) / 2 ^ i % 2 = _
    rw [ih (n + 1) (by omega), show n + 1 + i = n + (i + 1) by omega]
/-- The element that came in. -/
theorem elN_in (hf : ∀ s, f s ≤ 1) (h : s < 2147483648) (n : Nat) : elN f s (n + 31) = f (regN f s n) := by
  have h1 := regN_bit (f := f) (s := s) (n + 1) 30 (by decide)
  rw [show n + 1 + 30 = n + 31 by omega] at h1
  rw [← h1]
  show lf f (regN f s n) / 2 ^ 30 % 2 = _
  have h2 := regN_lt hf h n
  have h3 := hf (regN f s n)
  unfold lf
  rw [show (2 : Nat) ^ 30 = 1073741824 from rfl]
  generalize regN f s n = r at *
  generalize f r = b at *
  omega
theorem elN_start (n : Nat) (h : n < 31) : elN f s n = s / 2 ^ n % 2 := by
  have h1 := regN_bit (f := f) (s := s) 0 n h
  rw [Nat.zero_add] at h1
  rw [← h1]; rfl
end
theorem el1_rec (s n : Nat) (h : s < 2147483648) : elN fb1 s (n + 31) = (elN fb1 s (n + 3) + elN fb1 s n) % 2 := by
  rw [elN_in fb1_le h]
  have h3 := regN_bit (f := fb1) (s := s) n 3 (by decide)
  have h0 : elN fb1 s n = regN fb1 s n % 2 := rfl
  rw [← h3, h0]
  unfold fb1
  rw [show (2 : Nat) ^ 3 = 8 from rfl]
  omega
theorem el2_rec (s n : Nat) (h : s < 2147483648) : elN fb2 s (n + 31) = (elN fb2 s (n + 3) + elN fb2 s (n + 2) + elN fb2 s (n + 1) + elN fb2 s n) % 2 := by
  rw [elN_in fb2_le h]
  have h3 := regN_bit (f := fb2) (s := s) n 3 (by decide)
  have h2 := regN_bit (f := fb2) (s := s) n 2 (by decide)
  have h1 := regN_bit (f := fb2) (s := s) n 1 (by decide)
  have h0 : elN fb2 s n = regN fb2 s n % 2 := rfl
  rw [← h3, ← h2, ← h1, h0]
  unfold fb2
  rw [show (2 : Nat) ^ 3 = 8 from rfl, show (2 : Nat) ^ 2 = 4 from rfl, show (2 : Nat) ^ 1 = 2 from rfl]
  omega
/-- The scrambling sequence. -/
def goldN (v n : Nat) : Nat := (elN fb1 1 (n + 1600) + elN fb2 v (n + 1600)) % 2
theorem goldN_le (v n : Nat) : goldN v n ≤ 1 := by unfold goldN; omega

/-! ### linear -/
theorem xor_two (a b : Nat) : (a ^^^ b) % 2 = (a + b) % 2 := by
  have h := Nat.testBit_xor a b 0
  rw [Nat.testBit_zero, Nat.testBit_zero, Nat.testBit_zero] at h
  rcases Nat.mod_two_eq_zero_or_one (a ^^^ b) with hx | hx <;> rcases Nat.mod_two_eq_zero_or_one a with ha | ha <;> rcases Nat.mod_two_eq_zero_or_one b with hb | hb <;> rw [hx, ha, hb] at h <;> first | (exfalso; revert h; decide) | (rw [hx]; omega)
theorem xor_div (a b i : Nat) : (a ^^^ b) / 2 ^ i = (a / 2 ^ i) ^^^ (b / 2 ^ i) := by
  apply Nat.eq_of_testBit_eq
  intro j
  rw [Nat.testBit_xor, Nat.testBit_div_two_pow, Nat.testBit_div_two_pow, Nat.testBit_div_two_pow, Nat.testBit_xor]
theorem fb2_xor (a b : Nat) : fb2 (a ^^^ b) = (fb2 a + fb2 b) % 2 := by
  have h3 := xor_div a b 3
  have h2 := xor_div a b 2
  have h1 := xor_div a b 1
  have g3 := xor_two (a / 2 ^ 3) (b / 2 ^ 3)
  have g2 := xor_two (a / 2 ^ 2) (b / 2 ^ 2)
  have g1 := xor_two (a / 2 ^ 1) (b / 2 ^ 1)
  have g0 := xor_two a b
  rw [← h3] at g3
  rw [← h2] at g2
  rw [← h1] at g1
  rw [show (2 : Nat) ^ 3 = 8 from rfl] at g3
  rw [show (2 : Nat) ^ 2 = 4 from rfl] at g2
  rw [show (2 : Nat) ^ 1 = 2 from rfl] at g1
  unfold fb2
  generalize (a ^^^ b) / 8 = z3 at *
  generalize (a ^^^ b) / 4 = z2 at *
  generalize (a ^^^ b) / 2 = z1 at *
  generalize a ^^^ b = z0 at *
  omega
theorem lf2_xor {a b : Nat} (ha : a < 2147483648) (hb : b < 2147483648) : lf fb2 (a ^^^ b) = lf fb2 a ^^^ lf fb2 b := by
  have key : ∀ s t : Nat, s < 2147483648 → (lf fb2 s).testBit t = if t < 30 then s.testBit (t + 1) else if t = 30 then decide (fb2 s = 1) else false := by
    intro s t hs
    have hle := fb2_le s
    have hlt := lf_lt (f := fb2) fb2_le hs
    by_cases h1 : t < 30
    · rw [if_pos h1, Nat.testBit, Nat.testBit, Nat.shiftRight_eq_div_pow, Nat.shiftRight_eq_div_pow, Nat.one_and_eq_mod_two, Nat.one_and_eq_mod_two, lf_bit t h1]
    · rw [if_neg h1]
      by_cases h2 : t = 30
      · subst h2
        rw [if_pos rfl, Nat.testBit, Nat.shiftRight_eq_div_pow, Nat.one_and_eq_mod_two]
        have : lf fb2 s / 2 ^ 30 % 2 = fb2 s := by
          unfold lf
          rw [show (2 : Nat) ^ 30 = 1073741824 from rfl]
          generalize fb2 s = b at *
          omega
        rw [this]
        rcases Nat.le_one_iff_eq_zero_or_eq_one.1 hle with e | e <;> rw [e] <;> rfl
      · rw [if_neg h2]
        refine Nat.testBit_lt_two_pow (Nat.lt_of_lt_of_le hlt ?_)
        have : (2 : Nat) ^ 31 ≤ 2 ^ t := Nat.pow_le_pow_right (by decide) (by omega)
        omega
  apply Nat.eq_of_testBit_eq
  intro t
  have hx : a ^^^ b < 2147483648 := Nat.xor_lt_two_pow (n := 31) ha hb
  rw [Nat.testBit_xor, key _ _ hx, key _ _ ha, key _ _ hb]
  by_cases h1 : t < 30
  · rw [if_pos h1, if_pos h1, if_pos h1, Nat.testBit_xor]
  · rw [if_neg h1, if_neg h1, if_neg h1]
    by_cases h2 : t = 30
    · rw [if_pos h2, if_pos h2, if_pos h2, fb2_xor]
      rcases Nat.le_one_iff_eq_zero_or_eq_one.1 (fb2_le a) with e | e <;> rcases Nat.le_one_iff_eq_zero_or_eq_one.1 (fb2_le b) with e' | e' <;> rw [e, e'] <;> rfl
    · rw [if_neg h2, if_neg h2, if_neg h2]; rfl
theorem reg2_xor {a b : Nat} (ha : a < 2147483648) (hb : b < 2147483648) (n : Nat) : regN fb2 (a ^^^ b) n = regN fb2 a n ^^^ regN fb2 b n := by
  induction n with
  | zero => rfl
  | succ n ih =>
    show lf fb2 (regN fb2 (a ^^^ b) n) = _
    rw [ih, lf2_xor (regN_lt fb2_le ha n) (regN_lt fb2_le hb n)]
    rfl
theorem el2_xor {a b : Nat} (ha : a < 2147483648) (hb : b < 2147483648) (n : Nat) : elN fb2 (a ^^^ b) n = (elN fb2 a n + elN fb2 b n) % 2 := by
  unfold elN
  rw [reg2_xor ha hb, xor_two]
  omega
theorem el2_zero (n : Nat) : elN fb2 0 n = 0 := by
  have h : ∀ n, regN fb2 0 n = 0 := by
    intro n
    induction n with
    | zero => rfl
    | succ n ih =>
      show lf fb2 (regN fb2 0 n) = 0
      rw [ih]; rfl
  unfold elN
  rw [h]
theorem gold_linear {a b : Nat} (ha : a < 2147483648) (hb : b < 2147483648) (n : Nat) : (goldN a n + goldN b n) % 2 = (goldN (a ^^^ b) n + goldN 0 n) % 2 := by
  unfold goldN
  rw [el2_xor ha hb, el2_zero]
  omega

/-! ### distinct -/
theorem lf2_inj {a b : Nat} (ha : a < 2147483648) (hb : b < 2147483648) (h : lf fb2 a = lf fb2 b) : a = b := by
  have h1 := fb2_le a
  have h2 := fb2_le b
  have e : a / 2 = b / 2 ∧ fb2 a = fb2 b := by
    unfold lf at h
    generalize fb2 a = x at *
    generalize fb2 b = y at *
    omega
  obtain ⟨e1, e2⟩ := e
  have e4 : a / 4 = b / 4 := by omega
  have e8 : a / 8 = b / 8 := by omega
  unfold fb2 at e2
  rw [e1, e4, e8] at e2
  omega
theorem reg2_inj {a b : Nat} (ha : a < 2147483648) (hb : b < 2147483648) (n : Nat) (h : regN fb2 a n = regN fb2 b n) : a = b := by
  induction n with
  | zero => exact h
  | succ n ih => exact ih (lf2_inj (regN_lt fb2_le ha n) (regN_lt fb2_le hb n) h)
theorem gold_apart {a b : Nat} (ha : a < 2147483648) (hb : b < 2147483648) (h : ∀ i, i < 31 → goldN a i = goldN b i) : a = b := by
  refine reg2_inj ha hb 1600 ?_
  apply Nat.eq_of_testBit_eq
  intro i
  by_cases hi : i < 31
  · have h1 := regN_bit (f := fb2) (s := a) 1600 i hi
    have h2 := regN_bit (f := fb2) (s := b) 1600 i hi
    have h3 := h i hi
    have l1 := elN_le (f := fb2) (s := a) (1600 + i)
    have l2 := elN_le (f := fb2) (s := b) (1600 + i)
    unfold goldN at h3
    rw [show i + 1600 = 1600 + i by omega] at h3
    have e : elN fb2 a (1600 + i) = elN fb2 b (1600 + i) := by omega
    rw [Nat.testBit, Nat.testBit, Nat.shiftRight_eq_div_pow, Nat.shiftRight_eq_div_pow, Nat.one_and_eq_mod_two, Nat.one_and_eq_mod_two, h1, h2, e]
  · have hp : (2147483648 : Nat) ≤ 2 ^ i := by
      have : (2 : Nat) ^ 31 ≤ 2 ^ i := Nat.pow_le_pow_right (by decide) (by omega)
      omega
    rw [Nat.testBit_lt_two_pow (Nat.lt_of_lt_of_le (regN_lt fb2_le ha 1600) hp), Nat.testBit_lt_two_pow (Nat.lt_of_lt_of_le (regN_lt fb2_le hb 1600) hp)]
end Go.Proofs.Ytofcjcmbbkiaaaa
