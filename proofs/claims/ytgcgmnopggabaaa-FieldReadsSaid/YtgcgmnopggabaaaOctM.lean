/-
  The reader's octet: the mathematics.
-/
import Derived.Test.YtgcgmnopggabaaaRd3
import Derived.Test.YtgcgmnopggabaaaWBits
namespace Go.Proofs.Ytgcgmnopggabaaa
open Go.RowKit

/-- The byte of the bits from p on. -/
def octV (xs : List Int) (p : Nat) : Int := valueOf ((List.range 8).map fun t => bitAt xs (p + t))
theorem octV8 (xs : List Int) (p : Nat) : octV xs p = 128 * bitAt xs (p + 0) + 64 * bitAt xs (p + 1) + 32 * bitAt xs (p + 2) + 16 * bitAt xs (p + 3) + 8 * bitAt xs (p + 4) + 4 * bitAt xs (p + 5) + 2 * bitAt xs (p + 6) + bitAt xs (p + 7) := by
  rw [octV, valueOf8]
theorem octV_aligned {xs : List Int} (hx : Byte xs) {p : Nat} (h : p % 8 = 0) : xs[p / 8]?.getD 0 = octV xs p := by
  have hb : ∀ t, t < 8 → bitAt xs (p + t) = xs[p / 8]?.getD 0 / 2 ^ (7 - t) % 2 := fun t ht => by
    unfold bitAt
    rw [show (p + t) / 8 = p / 8 by omega, show (p + t) % 8 = t by omega]
  have hr := hx (p / 8)
  rw [octV8, hb 0 (by omega), hb 1 (by omega), hb 2 (by omega), hb 3 (by omega), hb 4 (by omega), hb 5 (by omega), hb 6 (by omega), hb 7 (by omega)]
  generalize xs[p / 8]?.getD 0 = x at *
  simp
  omega
theorem or_high {a b : Int} {j : Nat} (ha : 0 ≤ a) (hb0 : 0 ≤ b) (hj : j ≤ 8) (hb : b < ((2 ^ j : Nat) : Int)) (h : a * ((2 ^ j : Nat) : Int) < 256) : bits .or .u8 (a * ((2 ^ j : Nat) : Int)) b = a * ((2 ^ j : Nat) : Int) + b := by
  obtain ⟨m, rfl⟩ := Int.eq_ofNat_of_zero_le ha
  obtain ⟨n, rfl⟩ := Int.eq_ofNat_of_zero_le hb0
  have hm : m * 2 ^ j < 256 := by have := h; rw [← Int.natCast_mul] at this; omega
  have hn : n < 2 ^ j := by omega
  have hn2 : n < 256 := Nat.lt_of_lt_of_le hn (Nat.pow_le_pow_right (n := 2) (by decide) hj)
  rw [← Int.natCast_mul, bits_or_u .u8 rfl _ _ hm hn2, or_low _ _ _ hn]
  push_cast
  rfl
theorem octV_across {xs : List Int} (hx : Byte xs) {p : Nat} (h : p % 8 ≠ 0) : bits .or .u8 (IntKind.u8.wrap (xs[p / 8]?.getD 0 * 2 ^ (p % 8))) (xs[p / 8 + 1]?.getD 0 / 2 ^ (8 - p % 8)) = octV xs p := by
  have hb : ∀ t, t < 8 → bitAt xs (p + t) = if t < 8 - p % 8 then xs[p / 8]?.getD 0 / 2 ^ (7 - (p % 8 + t)) % 2 else xs[p / 8 + 1]?.getD 0 / 2 ^ (7 - (p % 8 + t - 8)) % 2 := fun t ht => by
    unfold bitAt
    split
    · rw [show (p + t) / 8 = p / 8 by omega, show (p + t) % 8 = p % 8 + t by omega]
    · rw [show (p + t) / 8 = p / 8 + 1 by omega, show (p + t) % 8 = p % 8 + t - 8 by omega]
  have hr := hx (p / 8)
  have hr2 := hx (p / 8 + 1)
  rw [octV8, hb 0 (by omega), hb 1 (by omega), hb 2 (by omega), hb 3 (by omega), hb 4 (by omega), hb 5 (by omega), hb 6 (by omega), hb 7 (by omega)]
  clear hb
  generalize xs[p / 8]?.getD 0 = x at *
  generalize xs[p / 8 + 1]?.getD 0 = y at *
  have h8 : p % 8 < 8 := Nat.mod_lt _ (by decide)
  have hw : IntKind.u8.wrap (x * 2 ^ (p % 8)) = (x % ((2 ^ (8 - p % 8) : Nat) : Int)) * ((2 ^ (p % 8) : Nat) : Int) ∧ (x % ((2 ^ (8 - p % 8) : Nat) : Int)) * ((2 ^ (p % 8) : Nat) : Int) < 256 ∧ y / 2 ^ (8 - p % 8) < ((2 ^ (p % 8) : Nat) : Int) ∧ 0 ≤ y / 2 ^ (8 - p % 8) := by
    simp only [IntKind.wrap, IntKind.bits, IntKind.signed]
    generalize p % 8 = u at *
    have : u = 1 ∨ u = 2 ∨ u = 3 ∨ u = 4 ∨ u = 5 ∨ u = 6 ∨ u = 7 := by omega
    rcases this with rfl | rfl | rfl | rfl | rfl | rfl | rfl <;> simp <;> omega
  rw [hw.1, or_high (Int.emod_nonneg _ (by have : 0 < 2 ^ (8 - p % 8) := Nat.pow_pos (by decide); omega)) hw.2.2.2 (by omega) hw.2.2.1 hw.2.1]
  clear hw
  generalize p % 8 = u at *
  have : u = 1 ∨ u = 2 ∨ u = 3 ∨ u = 4 ∨ u = 5 ∨ u = 6 ∨ u = 7 := by omega
  rcases this with rfl | rfl | rfl | rfl | rfl | rfl | rfl <;> simp <;> omega

end Go.Proofs.Ytgcgmnopggabaaa
