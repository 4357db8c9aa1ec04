/-
  Masks: the mathematics.
-/
import Derived.Test.YtekldonfmfnmpaaDoorL6
namespace Go.Proofs.YtekldonfmfnmpaaDoor
open Go.RowKit

def maskM (m : Nat) (v : Int) : List Bool := zerosB m ++ bitsB v.toNat 16
theorem maskM_length (m : Nat) (v : Int) : (maskM m v).length = m + 16 := by simp [maskM, zerosB, bitsB]
theorem maskM_getD {m p : Nat} {v : Int} (hp : p < m + 16) : (maskM m v).getD p false = if m ≤ p then v.toNat.testBit (16 - 1 - (p - m)) else false := by
  unfold maskM
  rw [List.getD_eq_getElem?_getD]
  by_cases h : m ≤ p
  · rw [if_pos h, List.getElem?_append_right (by simp [zerosB]; omega)]
    have e : p - (zerosB m).length = p - m := by simp [zerosB]
    rw [e, ← List.getD_eq_getElem?_getD, bitsB_getD _ _ _ (by omega)]
  · rw [if_neg h, List.getElem?_append_left (by simp [zerosB]; omega), ← List.getD_eq_getElem?_getD, zerosB_getD]
theorem digit_bI {v : Int} (hv : 0 ≤ v) (i : Nat) : v / 2 ^ i % 2 = bI (v.toNat.testBit i) := by
  obtain ⟨a, rfl⟩ := Int.eq_ofNat_of_zero_le hv
  rw [Int.toNat_natCast, Nat.testBit, Nat.shiftRight_eq_div_pow, Nat.one_and_eq_mod_two]
  have : ((a : Int) / 2 ^ i % 2) = ((a / 2 ^ i % 2 : Nat) : Int) := by simp
  rw [this]
  rcases Nat.mod_two_eq_zero_or_one (a / 2 ^ i) with h | h <;> rw [h] <;> rfl
theorem maskL_toB {xs : List Int} {v : Int} {m : Nat} (hx : Bits xs) (hm : xs.length = m + 16) (hv : 0 ≤ v) : maskL xs v = toI (xorB (toB xs) (maskM m v)) := by
  unfold maskL
  rw [show xs.length - 16 = m by omega]
  apply List.ext_getElem (by rw [maskP_length, toI_length, xorB_length, toB_length])
  intro p h1 h2
  have hp : p < m + 16 := by rw [maskP_length] at h1; omega
  have e1 : (toI (xorB (toB xs) (maskM m v)))[p] = bI (xor ((toB xs).getD p false) ((maskM m v).getD p false)) := by
    have h3 := toI_getD (xorB (toB xs) (maskM m v)) p
    rw [List.getElem?_eq_getElem h2, xorB_getD (by rw [toB_length]; omega)] at h3
    simpa using h3
  rw [e1, ← xor_bI, toB_getD hx, maskM_getD hp]
  simp only [maskP, List.getElem_map, List.getElem_range]
  by_cases h : m ≤ p
  · rw [if_pos ⟨h, by omega⟩, if_pos h, digit_bI hv]
  · rw [if_neg (by omega), if_neg h]
    have hb := bits_nonneg hx p
    rcases toB_getD hx p with e
    generalize (toB xs).getD p false = b at e
    rw [← e]
    cases b <;> decide
theorem xorB_twice {a M : List Bool} : xorB (xorB a M) M = a := by
  refine ext_getD (by rw [xorB_length, xorB_length]) (fun i hi => ?_)
  rw [xorB_length, xorB_length] at hi
  rw [xorB_getD (by rw [xorB_length]; exact hi), xorB_getD hi, Bool.xor_assoc, Bool.xor_self, Bool.xor_false]
theorem maskL_bits {xs : List Int} {v : Int} (hx : Bits xs) (hm : 16 ≤ xs.length) (hv : 0 ≤ v) : Bits (maskL xs v) := by
  rw [maskL_toB (m := xs.length - 16) hx (by omega) hv]; exact toI_bits _
theorem maskL_length (xs : List Int) (v : Int) : (maskL xs v).length = xs.length := maskP_length _ _ _ _
theorem maskL_twice {xs : List Int} {v : Int} (hx : Bits xs) (hm : 16 ≤ xs.length) (hv : 0 ≤ v) : maskL (maskL xs v) v = xs := by
  have hb := maskL_bits hx hm hv
  rw [maskL_toB (m := xs.length - 16) hb (by rw [maskL_length]; omega) hv]
  conv => lhs; rw [maskL_toB (m := xs.length - 16) hx (by omega) hv]
  rw [toB_toI, xorB_twice, toI_toB hx]
theorem maskS_good {xs : List Int} {v : Int} (hx : Bits xs) (hm : 16 ≤ xs.length) : maskS xs v = (maskL xs v, 0) := by
  unfold maskS
  rw [bits_valid hx, if_neg (by decide), if_neg (by omega)]
theorem bitsB_zero : bitsB 0 16 = zerosB 16 := by decide
theorem maskL_zero {xs : List Int} (hx : Bits xs) (hm : 16 ≤ xs.length) : maskL xs 0 = xs := by
  rw [maskL_toB (m := xs.length - 16) hx (by omega) (Int.le_refl _)]
  unfold maskM
  rw [show (0 : Int).toNat = 0 from rfl, bitsB_zero]
  have : zerosB (xs.length - 16) ++ zerosB 16 = zerosB xs.length := by unfold zerosB; rw [List.replicate_append_replicate]; congr 1; omega
  rw [this, xorB_zeros, toI_toB hx]
/-- A valid word that is masked. -/
theorem check_masked {xs : List Int} {v : Int} (hx : Bits xs) (hv : 0 ≤ v ∧ v < 65536) : checkS 3 (maskL (xs ++ crcI 3 xs) v) = if v = 0 then (xs, 0) else ([], 11) := by
  have hb := hx.app (crcI_bits 3 xs)
  have hl : (xs ++ crcI 3 xs).length = xs.length + 16 := by rw [List.length_append, crcI_length]; rfl
  by_cases h0 : v = 0
  · subst h0
    rw [if_pos rfl, maskL_zero hb (by omega)]
    exact checkS_attach (by decide) hx
  · rw [if_neg h0, maskL_toB (m := xs.length) hb hl hv.1]
    refine checkS_bad (by decide) (by rw [xorB_length, toB_length, hl]; show 16 ≤ _; omega) ?_
    have hres : crcB (genB 3) (toB (xs ++ crcI 3 xs)) = zerosB (genB 3).length := by
      have h1 := congrArg toB (crcI_residue 3 xs)
      unfold crcI at h1
      rw [toB_toI, toB_zeros, ← genB_length] at h1
      exact h1
    rw [crcB_xor _ (by rw [toB_length, hl, maskM_length]), hres, xorB_zeros_left (crcB_length _ _)]
    have e : maskM xs.length v = zerosB xs.length ++ bitsB v.toNat 16 ++ zerosB 0 := by unfold maskM; simp [zerosB]
    rw [e]
    refine crcB_burst (by rw [bitsB_length, genB_length]; decide) (fun hq => h0 ?_) (genB_last (by decide))
    have h2 := congrArg natB hq
    rw [natB_bitsB (by have := hv.2; omega), natB_zeros] at h2
    have := hv.1
    omega
/-- The reference's mask: the last k elements. -/
def maskQ (xs : List Int) (v : Int) (k : Nat) : List Int := (List.range xs.length).map fun p => if xs.length - k ≤ p then bits .xor .u8 (xs[p]?.getD 0) (v / 2 ^ (xs.length - 1 - p) % 2) else xs[p]?.getD 0
theorem maskQ_length (xs : List Int) (v : Int) (k : Nat) : (maskQ xs v k).length = xs.length := by simp [maskQ]
theorem maskQ_zero (xs : List Int) (v : Int) : maskQ xs v 0 = xs := by
  apply List.ext_getElem (maskQ_length _ _ _)
  intro p h1 h2
  simp only [maskQ, List.getElem_map, List.getElem_range]
  rw [if_neg (by omega), List.getElem?_eq_getElem h2]; rfl
theorem maskQ_get {xs : List Int} {v : Int} {k : Nat} (h : k < xs.length) : (maskQ xs v k)[xs.length - 1 - k]?.getD 0 = xs[xs.length - 1 - k]?.getD 0 := by
  have h1 : xs.length - 1 - k < xs.length := by omega
  simp only [maskQ, List.getElem?_map, List.getElem?_range h1, Option.map_some, Option.getD_some]
  rw [if_neg (by omega)]
theorem maskQ_succ {xs : List Int} {v : Int} {k : Nat} (h : k < xs.length) : maskQ xs v (k + 1) = (maskQ xs v k).set (xs.length - 1 - k) (bits .xor .u8 (xs[xs.length - 1 - k]?.getD 0) (v / 2 ^ k % 2)) := by
  apply List.ext_getElem (by simp [maskQ])
  intro p h1 h2
  have hp : p < xs.length := by rw [maskQ_length] at h1; exact h1
  rw [List.getElem_set]
  simp only [maskQ, List.getElem_map, List.getElem_range]
  by_cases hq : xs.length - 1 - k = p
  · rw [if_pos hq, if_pos (by omega), ← hq, show xs.length - 1 - (xs.length - 1 - k) = k by omega]
  · rw [if_neg hq]
    by_cases h3 : xs.length - k ≤ p
    · rw [if_pos h3, if_pos (by omega)]
    · rw [if_neg h3, if_neg (by omega)]
theorem maskQ_full {xs : List Int} {v : Int} (h : 16 ≤ xs.length) : maskQ xs v 16 = maskL xs v := by
  unfold maskQ maskL maskP
  apply List.map_congr_left
  intro p hp
  have hp' : p < xs.length := by simpa using hp
  by_cases h3 : xs.length - 16 ≤ p
  · rw [if_pos h3, if_pos (by omega), show xs.length - 1 - p = 16 - 1 - (p - (xs.length - 16)) by omega]
  · rw [if_neg h3, if_neg (by omega)]
theorem and_one_u16' {x : Int} (h0 : 0 ≤ x) (h1 : x < 65536) : bits .and .u16 x 1 % 256 = x % 2 := by
  obtain ⟨a, rfl⟩ := Int.eq_ofNat_of_zero_le h0
  have := bits_and_u .u16 rfl a 1 (by simp [IntKind.bits]; omega) (by decide)
  rw [Nat.and_one_is_mod] at this
  have e : bits .and .u16 (a : Int) 1 = ((a % 2 : Nat) : Int) := this
  rw [e]; omega
end Go.Proofs.YtekldonfmfnmpaaDoor
