/-
  checksum: the division, bit by bit; what it returns; what was there stays.
-/
import Derived.Test.YtkdodmjhpkfhnaaDoorK3
import Derived.Test.YtkdodmjhpkfhnaaDoorK4
namespace Go.Proofs.YtkdodmjhpkfhnaaDoor
open Go.RowKit Go.Shelf BigFrame

attribute [local go_sem] Oper.semAt_some

/-- The remainder as a number. -/
def regA (k : Int) (xs : List Int) : Int := (natB (runA (genB k) (zerosB (genN k).2) (toB xs)) : Nat)
theorem natB_zeros (n : Nat) : natB (zerosB n) = 0 := by
  apply Nat.eq_of_testBit_eq
  intro i
  rw [natB_bit, zerosB_getD]
  simp
theorem regA_nil (k : Int) : regA k [] = 0 := by
  show ((natB (zerosB (genN k).2) : Nat) : Int) = 0
  rw [natB_zeros]; rfl
theorem regA_range (k : Int) (xs : List Int) : 0 ≤ regA k xs ∧ regA k xs < 2 ^ (genN k).2 := by
  unfold regA
  have h1 := natB_lt (runA (genB k) (zerosB (genN k).2) (toB xs))
  rw [runA_length (by rw [genB_length]; simp [zerosB]), genB_length] at h1
  refine ⟨Int.natCast_nonneg _, ?_⟩
  have : ((natB (runA (genB k) (zerosB (genN k).2) (toB xs)) : Nat) : Int) < ((2 ^ (genN k).2 : Nat) : Int) := by exact_mod_cast h1
  simpa using this
theorem regA_snoc {k : Int} {x : Int} (xs : List Int) (hk : 0 < (genN k).2) (hx : x = 0 ∨ x = 1) :
    ((2 * regA k xs + x) / 2 ^ (genN k).2 = 1 → regA k (xs ++ [x]) = (((2 * regA k xs + x).toNat ^^^ (2 ^ (genN k).2 ||| (genN k).1) : Nat) : Int)) ∧ ((2 * regA k xs + x) / 2 ^ (genN k).2 ≠ 1 → regA k (xs ++ [x]) = 2 * regA k xs + x) := by
  have hb : ((decide (x = 1)).toNat : Int) = x := by rcases hx with rfl | rfl <;> rfl
  have hr : (runA (genB k) (zerosB (genN k).2) (toB xs)).length = (genB k).length := runA_length (by rw [genB_length]; simp [zerosB]) _
  have e : runA (genB k) (zerosB (genN k).2) (toB (xs ++ [x])) = stepA (genB k) (runA (genB k) (zerosB (genN k).2) (toB xs)) (decide (x = 1)) := by
    rw [toB_append, runA_append]; rfl
  have h := natA_step (g := genB k) (by rw [genB_length]; exact hk) hr (decide (x = 1))
  rw [genB_length, natB_genB] at h
  have h2 : 2 * regA k xs + x = ((2 * natB (runA (genB k) (zerosB (genN k).2) (toB xs)) + (decide (x = 1)).toNat : Nat) : Int) := by
    unfold regA
    rw [Int.natCast_add, Int.natCast_mul, hb]; rfl
  have h3 : regA k (xs ++ [x]) = ((natB (stepA (genB k) (runA (genB k) (zerosB (genN k).2) (toB xs)) (decide (x = 1))) : Nat) : Int) := by
    unfold regA; rw [e]
  rw [h2, h3, h, Int.toNat_natCast]
  generalize 2 * natB (runA (genB k) (zerosB (genN k).2) (toB xs)) + (decide (x = 1)).toNat = v
  have h4 : ((v : Int) / 2 ^ (genN k).2 = 1) ↔ (v / 2 ^ (genN k).2 = 1) := by
    have : ((v : Int) / 2 ^ (genN k).2) = ((v / 2 ^ (genN k).2 : Nat) : Int) := by simp
    rw [this]; omega
  refine ⟨fun hc => ?_, fun hc => ?_⟩
  · rw [if_pos (h4.1 hc)]
  · rw [if_neg (fun hh => hc (h4.2 hh))]
/-- What the register holds at the end. -/
theorem regA_crc {k : Int} {xs : List Int} (hk : 0 < (genN k).2) : binL (regA k (xs ++ zerosL (genN k).2)) (genN k).2 = crcI k xs := by
  have e : runA (genB k) (zerosB (genN k).2) (toB (xs ++ zerosL (genN k).2)) = crcB (genB k) (toB xs) := by
    have hz : toB (zerosL (genN k).2) = zerosB (genB k).length := by
      rw [genB_length]; unfold toB zerosL zerosB; simp
    have hl : zerosB (genN k).2 = zerosB (genB k).length := by rw [genB_length]
    rw [toB_append, hz, hl]
    exact runA_crc (by rw [genB_length]; exact hk) _
  unfold regA crcI
  rw [e]
  have hl : (crcB (genB k) (toB xs)).length = (genN k).2 := by rw [crcB_length, genB_length]
  generalize crcB (genB k) (toB xs) = r at *
  apply List.ext_getElem (by rw [binL_length, toI_length, hl])
  intro i h1 h2
  have hi : i < r.length := by rw [binL_length] at h1; omega
  have h3 := natB_digit r i hi
  have h4 : (binL ((natB r : Nat) : Int) (genN k).2)[i]'h1 = ((natB r : Nat) : Int) / 2 ^ ((genN k).2 - 1 - i) % 2 := by simp [binL]
  have h5 : (toI r)[i]'h2 = bI (r.getD i false) := by
    have := toI_getD r i
    rw [List.getElem?_eq_getElem h2] at this
    simpa using this
  rw [h4, h5, ← hl]
  have h6 : ((natB r : Nat) : Int) / 2 ^ (r.length - 1 - i) % 2 = ((natB r / 2 ^ (r.length - 1 - i) % 2 : Nat) : Int) := by simp
  rw [h6, h3]
  cases r.getD i false <;> rfl
theorem reg_or {v x : Int} (h0 : 0 ≤ v) (h1 : v < 2147483648) (hx : x = 0 ∨ x = 1) : bits .or .u32 (IntKind.u32.wrap (v * 2)) (IntKind.u32.wrap x) = 2 * v + x := by
  obtain ⟨a, rfl⟩ := Int.eq_ofNat_of_zero_le h0
  have e1 : IntKind.u32.wrap ((a : Int) * 2) = ((2 * a : Nat) : Int) := by simp [IntKind.wrap, IntKind.bits, IntKind.signed]; omega
  rcases hx with rfl | rfl
  · have h := bits_or_u .u32 rfl (2 * a) 0 (by simp [IntKind.bits]; omega) (by decide)
    rw [e1, show IntKind.u32.wrap 0 = ((0 : Nat) : Int) from rfl, h]
    simp
  · have h := bits_or_u .u32 rfl (2 * a) 1 (by simp [IntKind.bits]; omega) (by decide)
    rw [e1, show IntKind.u32.wrap 1 = ((1 : Nat) : Int) from rfl, h]
    have : 2 * a ||| 1 = 2 * a + 1 := by
      apply Nat.eq_of_testBit_eq
      intro i
      cases i with
      | zero => simp [Nat.testBit_zero]
      | succ i => rw [Nat.testBit_or, Nat.testBit_succ, Nat.testBit_succ, Nat.testBit_succ, show (2 * a + 1) / 2 = a by omega, show 2 * a / 2 = a by omega]; simp
    rw [this]; simp
theorem reg_or' {v x : Int} (h0 : 0 ≤ v) (h1 : v < 2147483648) (hx : x = 0 ∨ x = 1) : bits .or .u32 (v * 2 % 4294967296) (x % 4294967296) = 2 * v + x := by
  have h := reg_or h0 h1 hx
  have e1 : IntKind.u32.wrap (v * 2) = v * 2 % 4294967296 := by simp [IntKind.wrap, IntKind.bits, IntKind.signed]
  have e2 : IntKind.u32.wrap x = x % 4294967296 := by simp [IntKind.wrap, IntKind.bits, IntKind.signed]
  rwa [e1, e2] at h
/-- One step of the code is one step of the division. -/
theorem reg_step {k v x P : Int} {GI : Int} {L G GEN : Nat} {pre : List Int} (hGI : (GEN : Int) = GI) (hk : genN k = (G, L)) (hP : (2 : Int) ^ L = P) (hG : 2 ^ L ||| G = GEN) (hL : 0 < L ∧ L ≤ 24) (hGl : GEN < 4294967296) (hv : Bits pre → v = regA k pre) (hb : Bits (pre ++ [x])) :
    ((bits .or .u32 (v * 2 % 4294967296) (x % 4294967296) / P == 1) = false → bits .or .u32 (v * 2 % 4294967296) (x % 4294967296) = regA k (pre ++ [x])) ∧
    ((bits .or .u32 (v * 2 % 4294967296) (x % 4294967296) / P == 1) = true → bits .xor .u32 (bits .or .u32 (v * 2 % 4294967296) (x % 4294967296)) GI = regA k (pre ++ [x])) := by
  subst hGI
  have hx : x = 0 ∨ x = 1 := hb x (by simp)
  have hp : Bits pre := fun y hy => hb y (by simp [hy])
  have e := hv hp
  have hr := regA_range k pre
  have hs := regA_snoc (k := k) (x := x) pre (by rw [hk]; exact hL.1) hx
  rw [hk] at hr hs
  rw [← e] at hr hs
  simp only at hr hs
  have h24 : (2 : Int) ^ L ≤ 2 ^ 24 := by
    have : (2 : Nat) ^ L ≤ 2 ^ 24 := Nat.pow_le_pow_right (by decide) hL.2
    exact_mod_cast this
  have hv2 : v < 16777216 := by
    have : (2 : Int) ^ 24 = 16777216 := by decide
    omega
  rw [reg_or' hr.1 (by omega) hx, ← hP]
  rw [hP] at hs ⊢
  refine ⟨fun h => (hs.2 (by simpa using h)).symm, fun h => ?_⟩
  rw [hs.1 (by simpa using h), hG]
  obtain ⟨z, hz⟩ := Int.eq_ofNat_of_zero_le (show 0 ≤ 2 * v + x by rcases hx with rfl | rfl <;> omega)
  rw [hz, Int.toNat_natCast]
  have hzl : z < 4294967296 := by rcases hx with rfl | rfl <;> omega
  exact bits_xor_u .u32 rfl z GEN (by simpa [IntKind.bits] using hzl) (by simpa [IntKind.bits] using hGl)
end Go.Proofs.YtkdodmjhpkfhnaaDoor
