/-
  The reference's reader: the mathematics.
-/
import Derived.Test.YtgcgmnopggabaaaOct
import Derived.Test.YtgcgmnopggabaaaGa
import Derived.Test.YtgcgmnopggabaaaRf2
namespace Go.Proofs.Ytgcgmnopggabaaa
open Go.RowKit

theorem restL_bitsOf (xs : List Int) (p : Nat) : restL xs xs.length p = (bitsOf xs).drop p := by
  apply List.ext_getElem?
  intro i
  rw [List.getElem?_drop]
  unfold restL bitsOf unpackL
  by_cases hi : i < 8 * xs.length - p
  · simp only [List.getElem?_map, List.getElem?_range hi, List.getElem?_range (show p + i < 8 * xs.length by omega)]
    rfl
  · rw [List.getElem?_eq_none (by simp; omega), List.getElem?_eq_none (by simp; omega)]
theorem chunk_get (xs : List Int) (p m j : Nat) (hj : j < m) (hm : p + m ≤ 8 * xs.length) : (((bitsOf xs).drop p).take m)[j]?.getD 0 = bitAt xs (p + j) := by
  rw [List.getElem?_take, if_pos hj, List.getElem?_drop]
  exact bitsOf_get xs (p + j) (by omega)
theorem pack_chunk (xs : List Int) (p m : Nat) (h : p + 8 * m ≤ 8 * xs.length) : packL (((bitsOf xs).drop p).take (8 * m)) = octL xs p m := by
  have hl : (((bitsOf xs).drop p).take (8 * m)).length = 8 * m := by rw [List.length_take, List.length_drop, bitsOf_length]; omega
  unfold packL octL
  rw [hl, show (8 * m + 7) / 8 = m by omega]
  apply List.map_congr_left
  intro i hi
  have hi := List.mem_range.1 hi
  unfold byteAt octV
  congr 1
  apply List.map_congr_left
  intro t ht
  have ht := List.mem_range.1 ht
  rw [chunk_get xs p (8 * m) (8 * i + t) (by omega) h, Nat.add_assoc]
theorem weight_zero_iff {l : List Int} (hb : Bits l) : weight l = 0 ↔ valueOf l = 0 := by
  induction l with
  | nil => simp [weight, valueOf]
  | cons x l ih =>
    have ih := ih (fun y hy => hb y (by simp [hy]))
    have hx := hb x (by simp)
    have h1 : weight (x :: l) = (if x = 1 then 1 else 0) + weight l := by
      have := weight_append [x] l
      rw [List.singleton_append] at this
      rw [this]
      congr 1
      rcases hx with rfl | rfl <;> rfl
    have h2 := weight_le l
    have h3 := valueOf_lt (fun y hy => hb y (by simp [hy]) : Bits l)
    rw [h1, valueOf_cons]
    have hp : (0 : Int) < ((2 ^ l.length : Nat) : Int) := by have : 0 < 2 ^ l.length := Nat.pow_pos (by decide); omega
    rcases hx with rfl | rfl
    · simp; exact ih
    · rw [if_pos rfl]; constructor <;> intro h <;> omega
theorem valueOf_zero_all {l : List Int} (hb : Bits l) : valueOf l = 0 ↔ ∀ i, i < l.length → l[i]?.getD 0 = 0 := by
  induction l with
  | nil => simp [valueOf]
  | cons x l ih =>
    have ih := ih (fun y hy => hb y (by simp [hy]))
    have hx := hb x (by simp)
    have h3 := valueOf_lt (fun y hy => hb y (by simp [hy]) : Bits l)
    rw [valueOf_cons]
    have hp : (0 : Int) < ((2 ^ l.length : Nat) : Int) := by have : 0 < 2 ^ l.length := Nat.pow_pos (by decide); omega
    constructor
    · intro h i hi
      rcases hx with rfl | rfl
      · cases i with
        | zero => rfl
        | succ i => exact (ih.1 (by simpa using h)) i (by simpa using hi)
      · omega
    · intro h
      have h0 := h 0 (by simp)
      simp at h0
      subst h0
      simp only [Int.zero_mul, Int.zero_add]
      exact ih.2 (fun i hi => by simpa using h (i + 1) (by simpa using hi))
theorem Bits.drop {xs : List Int} (hb : Bits xs) (k : Nat) : Bits (xs.drop k) := fun x hx => hb x (List.mem_of_mem_drop hx)
/-- What the reference's Align finds. -/
theorem align_zero {xs : List Int} {p : Nat} (hp : p ≤ 8 * xs.length) : alignE xs xs.length p = 0 ↔ ∀ k, p ≤ k → k < p + padOf p → bitAt xs k = 0 := by
  have hle := pad_le hp
  have hb : Bits (((bitsOf xs).drop p).take (padOf p)) := ((bitsOf_bits xs).drop p).take _
  have hl : (((bitsOf xs).drop p).take (padOf p)).length = padOf p := by rw [List.length_take, List.length_drop, bitsOf_length]; omega
  have hz := valueOf_zero_all hb
  unfold alignE
  rw [restL_bitsOf]
  constructor
  · intro h k h1 h2
    have h0 : valueOf (((bitsOf xs).drop p).take (padOf p)) = 0 := Classical.byContradiction (fun hn => by rw [if_neg hn] at h; simp at h)
    have := (hz.1 h0) (k - p) (by omega)
    rwa [chunk_get xs p (padOf p) (k - p) (by omega) (by omega), show p + (k - p) = k by omega] at this
  · intro h
    rw [if_pos (hz.2 (fun i hi => by rw [chunk_get xs p (padOf p) i (by omega) (by omega)]; exact h (p + i) (by omega) (by omega)))]
theorem alignE_vals (xs : List Int) (n p : Nat) : alignE xs n p = 0 ∨ alignE xs n p = 9 := by unfold alignE; split <;> simp
theorem end_short {xs : List Int} {p : Nat} (hp : p ≤ 8 * xs.length) (h : 8 * xs.length - p < 8) : endE xs xs.length p = if 0 < weight ((bitsOf xs).drop p) then 9 else 0 := by
  have hpad : padOf p = 8 * xs.length - p := by unfold padOf; omega
  have hb : Bits ((bitsOf xs).drop p) := (bitsOf_bits xs).drop p
  have hw := weight_zero_iff hb
  have hle := weight_le ((bitsOf xs).drop p)
  unfold endE
  rw [if_neg (by omega)]
  unfold alignE
  rw [restL_bitsOf, hpad, List.take_of_length_le (by rw [List.length_drop, bitsOf_length]; exact Nat.le_refl _)]
  by_cases h0 : valueOf ((bitsOf xs).drop p) = 0
  · rw [if_pos h0, if_neg (by have := hw.2 h0; omega)]
  · rw [if_neg h0, if_pos (by have : weight ((bitsOf xs).drop p) ≠ 0 := fun e => h0 (hw.1 e); omega)]
end Go.Proofs.Ytgcgmnopggabaaa
