/-
  Block sizes. Pure mathematics.
-/
import Derived.Test.YtfplklbicimhkaaDoorBase
namespace Go.Proofs.YtfplklbicimhkaaDoor

/-- k is a block size. -/
def IsSize (k : Nat) : Prop := (40 ≤ k ∧ k ≤ 512 ∧ k % 8 = 0) ∨ (528 ≤ k ∧ k ≤ 1024 ∧ k % 16 = 0) ∨ (1056 ≤ k ∧ k ≤ 2048 ∧ k % 32 = 0) ∨ (2112 ≤ k ∧ k ≤ 6144 ∧ k % 64 = 0)
instance (k : Nat) : Decidable (IsSize k) := by unfold IsSize; infer_instance
def nextN (n : Nat) : Nat :=
  if n ≤ 512 then 40 + (n - 40 + 7) / 8 * 8 else if n ≤ 1024 then 528 + (n - 528 + 15) / 16 * 16 else if n ≤ 2048 then 1056 + (n - 1056 + 31) / 32 * 32 else 2112 + (n - 2112 + 63) / 64 * 64
theorem nextN_size {n : Nat} (h : n ≤ 6144) : IsSize (nextN n) := by
  unfold nextN IsSize
  split
  · omega
  · split
    · omega
    · split <;> omega
theorem nextN_ge {n : Nat} (h : n ≤ 6144) : n ≤ nextN n ∧ nextN n ≤ 6144 := by
  unfold nextN
  split
  · omega
  · split
    · omega
    · split <;> omega
theorem nextN_least {n m : Nat} (h1 : n ≤ m) (h2 : m < nextN n) : ¬ IsSize m := by
  unfold nextN at h2
  unfold IsSize
  split at h2
  · omega
  · split at h2
    · omega
    · split at h2 <;> omega
theorem nextN_self {n : Nat} (h : n ≤ 6144) : nextN n = n ↔ IsSize n := by
  constructor
  · intro e; rw [← e]; exact nextN_size h
  · intro hs
    have h1 := nextN_ge h
    rcases Nat.lt_or_ge n (nextN n) with h2 | h2
    · exact absurd hs (nextN_least (Nat.le_refl _) h2)
    · omega
theorem nextN_lt {n : Nat} (h : n ≤ 6144) : nextN n ≤ max 40 (n + 63) := by
  unfold nextN
  split
  · omega
  · split
    · omega
    · split <;> omega
theorem nextN_great {n : Nat} (h : 3072 < n) : nextN n = 2112 + (n - 2112 + 63) / 64 * 64 := by
  unfold nextN
  rw [if_neg (by omega), if_neg (by omega), if_neg (by omega)]

def sizesL : List Nat := (List.range 60).map (fun i => 40 + 8 * i) ++ (List.range 32).map (fun i => 528 + 16 * i) ++ (List.range 32).map (fun i => 1056 + 32 * i) ++ (List.range 64).map (fun i => 2112 + 64 * i)
theorem sizesL_length : sizesL.length = 188 := by decide +kernel
theorem sizesL_filter : (List.range 6145).filter (fun k => decide (IsSize k)) = sizesL := by decide +kernel
end Go.Proofs.YtfplklbicimhkaaDoor
