/-
  slices.Index over integers; before.
-/
import Derived.Test.YtkdodmjhpkfhnaaDoorP4
namespace Go.Proofs.YtkdodmjhpkfhnaaDoor
open Go.RowKit

set_option maxHeartbeats 1000000 in
theorem index_any {A : Option Addr} {n c B k : Nat} {xs : List Int} {v : Int} {w : World} (h : Rd .i64 w B A n xs) (hn : n ≤ 1000000) (hk : k < n) (hv : xs[k]?.getD 0 = v) (hne : ∀ i, i < k → xs[i]?.getD 0 ≠ v) :
    Calls Tryd.prog 63 #[.slice A n c, .int .i64 v] w fun e w' => e = .returned (.int .i64 k) ∧ w' = w := by
  have HN := Lib.hid hne
  clear hne
  go_enter Tryd.func63, Tryd.ntmps63
  go_wp2_with fail
  go_loop [8] (fun i => ∃ j : Nat, j ≤ k ∧ i = .int .i64 j) (fun i => k - (intOf i).toNat)
  case atStart => exact ⟨0, Nat.zero_le _, rfl⟩
  case round =>
    obtain ⟨j, hj, rfl⟩ := hrel
    obtain ⟨b, off, rfl, _, hc⟩ := h.cells j (by omega)
    by_cases hlt : j < k
    · have hd : (v == xs[j]?.getD 0) = false := by
        have := HN.out j hlt
        simp; exact fun e => this e.symm
      generalize xs[j]?.getD 0 = y at *
      go_wp2_with fail
      go_round
      case rel => exact ⟨j + 1, by omega, by go_num⟩
      case measure => simp [intOf]; omega
    · obtain rfl : j = k := by omega
      have hd : (v == xs[j]?.getD 0) = true := by simp [hv]
      generalize xs[j]?.getD 0 = y at *
      go_wp2_with fail
      go_ret
      exact ⟨rfl, rfl⟩
theorem sizes_at {j : Nat} (hj : j < 64) : (sizesL.map Int.ofNat)[124 + j]?.getD 0 = ((2112 + 64 * j : Nat) : Int) := by
  have : ∀ j : Fin 64, (sizesL.map Int.ofNat)[124 + j.1]?.getD 0 = ((2112 + 64 * j.1 : Nat) : Int) := by decide +kernel
  exact this ⟨j, hj⟩
theorem sizes_below : ∀ i : Fin 188, (sizesL.map Int.ofNat)[i.1]?.getD 0 < if i.1 < 124 then 2112 else ((2112 + 64 * (i.1 - 124) + 1 : Nat) : Int) := by decide +kernel
theorem before_any {j : Nat} {w : World} (hK : Kinds w) (hj : 1 ≤ j) (hj2 : j < 64) :
    Calls Tryd.prog 54 #[.int .i64 ((2112 + 64 * j : Nat) : Int)] w fun e w' => e = .returned (.int .i64 ((2112 + 64 * (j - 1) : Nat) : Int)) ∧ Below w.heap.size w w' := by
  have hS := Lib.hid (Sizes_any hK)
  have h1 := sizes_at hj2
  have h2 := sizes_at (j := j - 1) (by omega)
  have h3 : ∀ i, i < 124 + j → (sizesL.map Int.ofNat)[i]?.getD 0 ≠ ((2112 + 64 * j : Nat) : Int) := by
    intro i hi
    have := sizes_below ⟨i, by omega⟩
    simp only at this
    split at this <;> omega
  generalize ((2112 + 64 * j : Nat) : Int) = s at *
  generalize ((2112 + 64 * (j - 1) : Nat) : Int) = s2 at *
  generalize sizesL.map Int.ofNat = xs at *
  have hx : Hid (∀ i, i < 124 + j → xs[i]?.getD 0 ≠ s) := Lib.hid h3
  clear h3 hK
  go_enter Tryd.func54, Tryd.ntmps54
  go_wp2_with fail
  refine hS.out.mono ?_
  rintro e w1 ⟨A, c, rfl, hown, hb⟩
  have hR := Rd.of_own hown
  obtain ⟨b, off, rfl, _, hc⟩ := hR.cells (124 + (j - 1)) (by omega)
  rw [h2] at hc
  have hIx := Lib.hid (index_any (c := c) hR (by decide) (show 124 + j < 188 by omega) h1 hx.out)
  have hoff : off + (124 + (j - 1)) = off + (123 + j) := by omega
  rw [hoff] at hc
  have hi0 : ((124 + j : Nat) : Int) - 1 = ((123 + j : Nat) : Int) := by omega
  clear hown hR h1 h2
  go_wp2_with (go_at_call 63; refine hIx.out.mono ?_; rintro e w2 ⟨rfl, rfl⟩)
  go_ret
  exact ⟨rfl, hb⟩
end Go.Proofs.YtkdodmjhpkfhnaaDoor
