/-
  Cyclic redundancy checks: the division of the word followed by zeros, bit by bit, is the register's.
-/
import Derived.Test.YtkdodmjhpkfhnaaDoorCrcI
namespace Go.Proofs.YtkdodmjhpkfhnaaDoor

/-- One bit into the remainder r. -/
def stepA (g r : List Bool) (b : Bool) : List Bool := (List.range g.length).map fun i => xor (if i + 1 < g.length then r.getD (i + 1) false else b) (r.getD 0 false && g.getD i false)
theorem stepA_length (g r : List Bool) (b : Bool) : (stepA g r b).length = g.length := by simp [stepA]
theorem stepA_getD {g r : List Bool} {b : Bool} {i : Nat} (hi : i < g.length) : (stepA g r b).getD i false = xor (if i + 1 < g.length then r.getD (i + 1) false else b) (r.getD 0 false && g.getD i false) := by
  simp [stepA, List.getD_eq_getElem?_getD, hi]
def runA (g r bs : List Bool) : List Bool := bs.foldl (stepA g) r
theorem runA_length {g r : List Bool} (hr : r.length = g.length) (bs : List Bool) : (runA g r bs).length = g.length := by
  induction bs generalizing r with
  | nil => exact hr
  | cons b bs ih => exact ih (stepA_length g r b)
theorem runA_append (g r as bs : List Bool) : runA g r (as ++ bs) = runA g (runA g r as) bs := by simp [runA]
theorem stepA_false {g r : List Bool} (hr : r.length = g.length) : stepA g r false = stepB g r false := by
  refine ext_getD (by rw [stepA_length, stepB_length]) (fun i hi => ?_)
  rw [stepA_length] at hi
  rw [stepA_getD hi, stepB_getD hi, Bool.xor_false]
  by_cases h : i + 1 < g.length
  · rw [if_pos h]
  · rw [if_neg h, getD_past (a := r) (i := i + 1) (by omega)]
theorem runA_zeros {g : List Bool} (n : Nat) : ∀ r : List Bool, r.length = g.length → runA g r (zerosB n) = runB g r (zerosB n) := by
  induction n with
  | zero => intro r _; rfl
  | succ n ih =>
    intro r hr
    show runA g (stepA g r false) (zerosB n) = runB g (stepB g r false) (zerosB n)
    rw [stepA_false hr]
    exact ih _ (stepB_length g r false)
def lastB (L : Nat) (b : Bool) : List Bool := zerosB (L - 1) ++ [b]
theorem lastB_length {L : Nat} (hL : 0 < L) (b : Bool) : (lastB L b).length = L := by simp [lastB, zerosB]; omega
theorem lastB_getD {L : Nat} (b : Bool) (i : Nat) (hi : i < L) : (lastB L b).getD i false = if i + 1 < L then false else b := by
  unfold lastB
  rw [List.getD_eq_getElem?_getD]
  by_cases h : i + 1 < L
  · rw [if_pos h, List.getElem?_append_left (by simp [zerosB]; omega)]
    unfold zerosB
    rw [List.getElem?_replicate, if_pos (by omega)]; rfl
  · rw [if_neg h, List.getElem?_append_right (by simp [zerosB]; omega)]
    have : i - (zerosB (L - 1)).length = 0 := by simp [zerosB]; omega
    rw [this]; rfl
theorem stepA_split {g r : List Bool} (b : Bool) (hr : r.length = g.length) : stepA g r b = xorB (stepB g r false) (lastB g.length b) := by
  refine ext_getD (by rw [stepA_length, xorB_length, stepB_length]) (fun i hi => ?_)
  rw [stepA_length] at hi
  have e : (xorB (stepB g r false) (lastB g.length b)).getD i false = xor ((stepB g r false).getD i false) ((lastB g.length b).getD i false) := xorB_getD (by rw [stepB_length]; exact hi)
  rw [e, stepA_getD hi, stepB_getD hi, lastB_getD _ _ hi, Bool.xor_false]
  by_cases h : i + 1 < g.length
  · rw [if_pos h, if_pos h, Bool.xor_false]
  · rw [if_neg h, if_neg h, getD_past (a := r) (i := i + 1) (by omega), Bool.false_xor, Bool.xor_comm]
theorem stepB_split {g r : List Bool} (b : Bool) : stepB g r b = xorB (stepB g r false) (if b then g else zerosB g.length) := by
  refine ext_getD (by rw [xorB_length, stepB_length, stepB_length]) (fun i hi => ?_)
  rw [stepB_length] at hi
  have e : (xorB (stepB g r false) (if b then g else zerosB g.length)).getD i false = xor ((stepB g r false).getD i false) ((if b then g else zerosB g.length).getD i false) := xorB_getD (by rw [stepB_length]; exact hi)
  rw [e, stepB_getD hi, stepB_getD hi, Bool.xor_false]
  cases b
  · show _ = xor _ ((zerosB g.length).getD i false)
    rw [zerosB_getD]
    simp only [Bool.xor_false]
  · simp only [if_true]
    generalize r.getD (i + 1) false = x
    generalize r.getD 0 false = y
    generalize g.getD i false = z
    revert x y z
    decide
/-- x^L modulo the generator is the generator's lower part. -/
theorem runB_last {g : List Bool} (hg : 0 < g.length) (b : Bool) : runB g (lastB g.length b) (zerosB g.length) = if b then g else zerosB g.length := by
  cases b with
  | false =>
    have e : lastB g.length false = zerosB g.length := by
      refine ext_getD (by rw [lastB_length hg]; simp [zerosB]) (fun i hi => ?_)
      rw [lastB_length hg] at hi
      rw [lastB_getD _ _ hi, zerosB_getD]; simp
    rw [e, runB_zeros]; rfl
  | true =>
    have h1 := runB_own (g := g) (lastB g.length true) (lastB_length hg true) (g.length - 1) (by omega)
    have h2 : (lastB g.length true).take (g.length - 1) = zerosB (g.length - 1) := by unfold lastB; rw [List.take_left' (by simp [zerosB])]
    have h3 : (lastB g.length true).drop (g.length - 1) = [true] := by unfold lastB; rw [List.drop_left' (by simp [zerosB])]
    rw [h2, h3] at h1
    have h4 : zerosB g.length = zerosB (g.length - 1) ++ [false] := by
      unfold zerosB
      rw [← List.replicate_succ', show g.length - 1 + 1 = g.length by omega]
    rw [h4, runB_append, h1]
    show stepB g (true :: zerosB (g.length - 1)) false = g
    refine ext_getD (stepB_length _ _ _) (fun i hi => ?_)
    rw [stepB_length] at hi
    rw [stepB_getD hi]
    have : (true :: zerosB (g.length - 1)).getD (i + 1) false = false := by
      show (zerosB (g.length - 1)).getD i false = false
      exact zerosB_getD _ _
    rw [this]
    show xor false (true && g.getD i false) = _
    simp
theorem runA_shift {g : List Bool} (hg : 0 < g.length) (bs : List Bool) : runB g (runA g (zerosB g.length) bs) (zerosB g.length) = crcB g bs := by
  refine rev_ind (P := fun bs => runB g (runA g (zerosB g.length) bs) (zerosB g.length) = crcB g bs) ?_ ?_ bs
  · exact runB_zeros g _
  · intro bs b ih
    have hl : (runA g (zerosB g.length) bs).length = g.length := runA_length (by simp [zerosB]) bs
    have e1 : runA g (zerosB g.length) (bs ++ [b]) = stepA g (runA g (zerosB g.length) bs) b := by simp [runA]
    have h1 := runB_xor (g := g) (r := stepB g (runA g (zerosB g.length) bs) false) (s := lastB g.length b) (as := zerosB g.length) (bs := zerosB g.length) (stepB_length _ _ _) (lastB_length hg b) rfl
    rw [zeros_xor] at h1
    have h2 : runB g (stepB g (runA g (zerosB g.length) bs) false) (zerosB g.length) = stepB g (crcB g bs) false := by
      have e2 : runB g (stepB g (runA g (zerosB g.length) bs) false) (zerosB g.length) = runB g (runA g (zerosB g.length) bs) (zerosB g.length ++ [false]) := by
        have : zerosB g.length ++ [false] = false :: zerosB g.length := by
          unfold zerosB
          rw [← List.replicate_succ', List.replicate_succ]
        rw [this]; rfl
      rw [e2, runB_append, ih]; rfl
    rw [e1, stepA_split b hl, h1, h2, runB_last hg b, crcB_snoc, stepB_split b]
/-- The division's end. -/
theorem runA_crc {g : List Bool} (hg : 0 < g.length) (bs : List Bool) : runA g (zerosB g.length) (bs ++ zerosB g.length) = crcB g bs := by
  rw [runA_append, runA_zeros _ _ (runA_length (by simp [zerosB]) bs), runA_shift hg]
/-- One step, as a number. -/
theorem natA_step {g r : List Bool} (hg : 0 < g.length) (hr : r.length = g.length) (b : Bool) : natB (stepA g r b) = if (2 * natB r + b.toNat) / 2 ^ g.length = 1 then (2 * natB r + b.toNat) ^^^ (2 ^ g.length ||| natB g) else 2 * natB r + b.toNat := by
  have htop := natB_top (r := r) (by omega)
  have hlt := natB_lt r
  have hb := Bool.toNat_le b
  rw [hr] at htop hlt
  have hv : (2 * natB r + b.toNat) / 2 ^ g.length = (r.getD 0 false).toNat := by
    have e : 2 ^ g.length = 2 * 2 ^ (g.length - 1) := by rw [← Nat.pow_succ']; congr 1; omega
    rw [e, ← Nat.div_div_eq_div_mul, show (2 * natB r + b.toNat) / 2 = natB r by omega]
    have h3 : natB r / 2 ^ (g.length - 1) < 2 := by
      rw [Nat.div_lt_iff_lt_mul (Nat.two_pow_pos _)]
      rw [e] at hlt
      omega
    rw [Nat.mod_eq_of_lt h3] at htop
    exact htop
  have hvb : ∀ i, (2 * natB r + b.toNat).testBit i = if i = 0 then b else if i - 1 < g.length then r.getD (g.length - i) false else false := fun i => by
    cases i with
    | zero => rw [Nat.testBit_zero]; cases b <;> simp
    | succ i =>
      rw [Nat.testBit_succ, show (2 * natB r + b.toNat) / 2 = natB r by omega, natB_bit, hr, if_neg (Nat.succ_ne_zero i), Nat.add_sub_cancel]
      by_cases h : i < g.length
      · rw [if_pos h, if_pos h, show g.length - 1 - i = g.length - (i + 1) by omega]
      · rw [if_neg h, if_neg h]
  apply Nat.eq_of_testBit_eq
  intro i
  rw [natB_bit, stepA_length, hv]
  have hsb : i < g.length → (stepA g r b).getD (g.length - 1 - i) false = xor (if i = 0 then b else r.getD (g.length - i) false) (r.getD 0 false && g.getD (g.length - 1 - i) false) := fun h => by
    rw [stepA_getD (by omega)]
    by_cases h0 : i = 0
    · rw [if_neg (by omega), if_pos h0]
    · rw [if_pos (by omega), if_neg h0, show g.length - 1 - i + 1 = g.length - i by omega]
  cases h0 : r.getD 0 false with
  | true =>
    rw [if_pos (show true.toNat = 1 from rfl), Nat.testBit_xor, Nat.testBit_or, hvb, natB_bit, Nat.testBit_two_pow]
    by_cases h : i < g.length
    · rw [if_pos h, hsb h, h0, if_pos h, decide_eq_false (by omega), Bool.true_and, Bool.false_or]
      by_cases hi0 : i = 0
      · rw [if_pos hi0, if_pos hi0]
      · rw [if_neg hi0, if_neg hi0, if_pos (by omega)]
    · rw [if_neg h, if_neg h, if_neg (by omega)]
      by_cases hL : i = g.length
      · subst hL
        rw [if_pos (by omega), Nat.sub_self, h0]; simp
      · rw [if_neg (by omega), decide_eq_false (by omega)]; rfl
  | false =>
    rw [if_neg (show ¬(false.toNat = 1) by decide), hvb]
    by_cases h : i < g.length
    · rw [if_pos h, hsb h, h0, Bool.false_and, Bool.xor_false]
      by_cases hi0 : i = 0
      · rw [if_pos hi0, if_pos hi0]
      · rw [if_neg hi0, if_neg hi0, if_pos (by omega)]
    · rw [if_neg h, if_neg (by omega)]
      by_cases hL : i = g.length
      · subst hL
        rw [if_pos (by omega), Nat.sub_self, h0]
      · rw [if_neg (by omega)]
end Go.Proofs.YtkdodmjhpkfhnaaDoor
