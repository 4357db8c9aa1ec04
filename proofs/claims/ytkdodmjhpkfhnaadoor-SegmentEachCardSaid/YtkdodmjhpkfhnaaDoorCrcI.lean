/-
  Cyclic redundancy checks: bits as integers, the register as a number, the four generators.
-/
import Derived.Test.YtkdodmjhpkfhnaaDoorCrcM
import Derived.Test.YtkdodmjhpkfhnaaDoorBits3
namespace Go.Proofs.YtkdodmjhpkfhnaaDoor

def bI (b : Bool) : Int := if b then 1 else 0
theorem bI_bit (b : Bool) : bI b = 0 ∨ bI b = 1 := by cases b <;> simp [bI]
def toI (bs : List Bool) : List Int := bs.map bI
def toB (xs : List Int) : List Bool := xs.map fun x => decide (x = 1)
theorem toI_bits (bs : List Bool) : Bits (toI bs) := fun x hx => by
  obtain ⟨b, _, rfl⟩ := List.mem_map.1 hx
  exact bI_bit b
theorem toI_toB {xs : List Int} (h : Bits xs) : toI (toB xs) = xs := by
  unfold toI toB
  rw [List.map_map]
  conv => rhs; rw [← List.map_id xs]
  apply List.map_congr_left
  intro x hx
  rcases h x hx with rfl | rfl <;> rfl
theorem toB_toI (bs : List Bool) : toB (toI bs) = bs := by
  unfold toI toB
  rw [List.map_map]
  conv => rhs; rw [← List.map_id bs]
  apply List.map_congr_left
  intro b _
  cases b <;> rfl
theorem toB_length (xs : List Int) : (toB xs).length = xs.length := by simp [toB]
theorem toI_length (bs : List Bool) : (toI bs).length = bs.length := by simp [toI]
theorem toB_append (xs ys : List Int) : toB (xs ++ ys) = toB xs ++ toB ys := by simp [toB]
theorem toI_append (xs ys : List Bool) : toI (xs ++ ys) = toI xs ++ toI ys := by simp [toI]
theorem toI_getD (bs : List Bool) (i : Nat) : (toI bs)[i]?.getD 0 = bI (bs.getD i false) := by
  unfold toI
  rw [List.getElem?_map, List.getD_eq_getElem?_getD]
  cases bs[i]? <;> rfl
theorem toB_getD {xs : List Int} (h : Bits xs) (i : Nat) : bI ((toB xs).getD i false) = xs[i]?.getD 0 := by rw [← toI_getD, toI_toB h]

theorem rev_ind {α : Type} {P : List α → Prop} (h0 : P []) (hs : ∀ l x, P l → P (l ++ [x])) (l : List α) : P l := by
  rw [← List.reverse_reverse l]
  induction l.reverse with
  | nil => exact h0
  | cons x t ih => rw [List.reverse_cons]; exact hs _ _ ih
/-- The register as a number. -/
def natB (bs : List Bool) : Nat := bs.foldl (fun v b => 2 * v + b.toNat) 0
theorem natB_snoc (bs : List Bool) (b : Bool) : natB (bs ++ [b]) = 2 * natB bs + b.toNat := by simp [natB]
theorem natB_bit (bs : List Bool) : ∀ i, (natB bs).testBit i = if i < bs.length then bs.getD (bs.length - 1 - i) false else false := by
  refine rev_ind (P := fun bs => ∀ i, (natB bs).testBit i = if i < bs.length then bs.getD (bs.length - 1 - i) false else false) ?_ ?_ bs
  · intro i; simp [natB]
  · intro bs b ih i
    rw [natB_snoc, List.length_append]
    cases i with
    | zero =>
      rw [if_pos (by simp), Nat.testBit_zero]
      have : (bs ++ [b]).getD (bs.length + [b].length - 1 - 0) false = b := by simp [List.getD_eq_getElem?_getD]
      rw [this]
      cases b <;> simp
    | succ i =>
      have h1 : (2 * natB bs + b.toNat) / 2 = natB bs := by have := Bool.toNat_le b; omega
      rw [Nat.testBit_succ, h1, ih i]
      by_cases h : i < bs.length
      · rw [if_pos h, if_pos (by simp; omega)]
        rw [List.getD_eq_getElem?_getD, List.getD_eq_getElem?_getD, List.getElem?_append_left (by simp; omega)]
        simp only [List.length_singleton]
        rw [show bs.length + 1 - 1 - (i + 1) = bs.length - 1 - i by omega]
      · rw [if_neg h, if_neg (by simp; omega)]
theorem natB_lt (bs : List Bool) : natB bs < 2 ^ bs.length := by
  refine rev_ind (P := fun bs => natB bs < 2 ^ bs.length) ?_ ?_ bs
  · simp [natB]
  · intro bs b ih
    rw [natB_snoc, List.length_append, List.length_singleton, Nat.pow_succ]
    have := Bool.toNat_le b
    omega
/-- One step of the register, as a number. -/
theorem natB_step {g r : List Bool} (hr : r.length = g.length) (b : Bool) : natB (stepB g r b) = (2 * natB r % 2 ^ g.length) ^^^ (if xor (r.getD 0 false) b then natB g else 0) := by
  apply Nat.eq_of_testBit_eq
  intro i
  rw [Nat.testBit_xor, natB_bit, stepB_length, Nat.testBit_mod_two_pow]
  by_cases hi : i < g.length
  · rw [if_pos hi, stepB_getD (by omega)]
    have h2 : (2 * natB r).testBit i = r.getD (g.length - 1 - i + 1) false := by
      cases i with
      | zero =>
        rw [Nat.testBit_zero, getD_past (by omega)]
        simp
      | succ i =>
        rw [Nat.testBit_succ, show 2 * natB r / 2 = natB r by omega, natB_bit, if_pos (by omega), hr]
        rw [show g.length - 1 - (i + 1) + 1 = g.length - 1 - i by omega]
    have h3 : (if xor (r.getD 0 false) b then natB g else 0).testBit i = (xor (r.getD 0 false) b && g.getD (g.length - 1 - i) false) := by
      cases xor (r.getD 0 false) b
      · simp
      · simp only [if_true, Bool.true_and]
        rw [natB_bit, if_pos hi]
    rw [h2, h3]
    simp [hi]
  · rw [if_neg hi]
    have h3 : (if xor (r.getD 0 false) b then natB g else 0).testBit i = false := by
      cases xor (r.getD 0 false) b
      · simp
      · simp only [if_true]
        rw [natB_bit, if_neg hi]
    rw [h3]
    simp [hi]
theorem natB_top {r : List Bool} (hr : 0 < r.length) : (natB r / 2 ^ (r.length - 1)) % 2 = (r.getD 0 false).toNat := by
  have h := natB_bit r (r.length - 1)
  rw [if_pos (by omega), show r.length - 1 - (r.length - 1) = 0 by omega, Nat.testBit, Nat.shiftRight_eq_div_pow] at h
  rw [← h]
  have h2 : 1 &&& natB r / 2 ^ (r.length - 1) = natB r / 2 ^ (r.length - 1) % 2 := by rw [Nat.one_and_eq_mod_two]
  rw [h2]
  rcases Nat.mod_two_eq_zero_or_one (natB r / 2 ^ (r.length - 1)) with h3 | h3 <;> rw [h3] <;> rfl
theorem natB_digit (r : List Bool) (i : Nat) (hi : i < r.length) : natB r / 2 ^ (r.length - 1 - i) % 2 = (r.getD i false).toNat := by
  have h := natB_bit r (r.length - 1 - i)
  rw [if_pos (by omega), show r.length - 1 - (r.length - 1 - i) = i by omega, Nat.testBit, Nat.shiftRight_eq_div_pow] at h
  rw [← h]
  have h2 : 1 &&& natB r / 2 ^ (r.length - 1 - i) = natB r / 2 ^ (r.length - 1 - i) % 2 := by rw [Nat.one_and_eq_mod_two]
  rw [h2]
  rcases Nat.mod_two_eq_zero_or_one (natB r / 2 ^ (r.length - 1 - i)) with h3 | h3 <;> rw [h3] <;> rfl
theorem natB_value (bs : List Bool) : (natB bs : Int) = valueOf (toI bs) := by
  refine rev_ind (P := fun bs => (natB bs : Int) = valueOf (toI bs)) ?_ ?_ bs
  · rfl
  · intro bs b ih
    rw [natB_snoc, toI_append]
    show _ = valueOf (toI bs ++ [bI b])
    rw [valueOf_snoc, ← ih]
    cases b <;> simp [bI]

/-- The generators: the coefficients below the highest one. -/
def genN (k : Int) : Nat × Nat := if k = 1 then (0x864cfb, 24) else if k = 2 then (0x800063, 24) else if k = 3 then (0x1021, 16) else if k = 4 then (0x9b, 8) else (0, 0)
def bitsB (v n : Nat) : List Bool := (List.range n).map fun i => v.testBit (n - 1 - i)
theorem bitsB_length (v n : Nat) : (bitsB v n).length = n := by simp [bitsB]
theorem bitsB_getD (v n i : Nat) (hi : i < n) : (bitsB v n).getD i false = v.testBit (n - 1 - i) := by simp [bitsB, List.getD_eq_getElem?_getD, hi]
theorem natB_bitsB {v n : Nat} (h : v < 2 ^ n) : natB (bitsB v n) = v := by
  apply Nat.eq_of_testBit_eq
  intro i
  rw [natB_bit, bitsB_length]
  by_cases hi : i < n
  · rw [if_pos hi, bitsB_getD _ _ _ (by omega), show n - 1 - (n - 1 - i) = i by omega]
  · rw [if_neg hi, Nat.testBit_lt_two_pow (Nat.lt_of_lt_of_le h (Nat.pow_le_pow_right (by decide) (by omega)))]
def genB (k : Int) : List Bool := bitsB (genN k).1 (genN k).2
theorem genB_length (k : Int) : (genB k).length = (genN k).2 := bitsB_length _ _
theorem genN_cases (k : Int) : (k = 1 ∧ genN k = (0x864cfb, 24)) ∨ (k = 2 ∧ genN k = (0x800063, 24)) ∨ (k = 3 ∧ genN k = (0x1021, 16)) ∨ (k = 4 ∧ genN k = (0x9b, 8)) ∨ ((k < 1 ∨ 4 < k) ∧ genN k = (0, 0)) := by
  unfold genN
  by_cases h1 : k = 1
  · left; simp [h1]
  · by_cases h2 : k = 2
    · right; left; simp [h2]
    · by_cases h3 : k = 3
      · right; right; left; simp [h3]
      · by_cases h4 : k = 4
        · right; right; right; left; simp [h4]
        · right; right; right; right
          refine ⟨by omega, ?_⟩
          rw [if_neg h1, if_neg h2, if_neg h3, if_neg h4]
theorem genB_last {k : Int} (h : (genN k).2 ≠ 0) : (genB k).getD ((genB k).length - 1) false = true := by
  rw [genB_length]
  unfold genB
  rcases genN_cases k with ⟨_, e⟩ | ⟨_, e⟩ | ⟨_, e⟩ | ⟨_, e⟩ | ⟨_, e⟩ <;> rw [e] at h ⊢
  · decide
  · decide
  · decide
  · decide
  · exact absurd rfl h
theorem natB_genB (k : Int) : natB (genB k) = (genN k).1 := by
  refine natB_bitsB ?_
  rcases genN_cases k with ⟨_, e⟩ | ⟨_, e⟩ | ⟨_, e⟩ | ⟨_, e⟩ | ⟨_, e⟩ <;> rw [e] <;> decide
/-- The checksum, and Compute's result. -/
def crcI (k : Int) (xs : List Int) : List Int := toI (crcB (genB k) (toB xs))
theorem crcI_length (k : Int) (xs : List Int) : (crcI k xs).length = (genN k).2 := by unfold crcI; rw [toI_length, crcB_length, genB_length]
theorem crcI_bits (k : Int) (xs : List Int) : Bits (crcI k xs) := toI_bits _
def computeS (k : Int) (xs : List Int) : List Int × Int := if (genN k).2 = 0 then ([], 2) else if validB xs = false then ([], 3) else (crcI k xs, 0)
end Go.Proofs.YtkdodmjhpkfhnaaDoor
