/-
  The reference of Valid.
-/
import Derived.Test.YtfplklbicimhkaaDoorVq
namespace Go.Proofs.YtfplklbicimhkaaDoor
/-! ### The references of Valid, Next. -/
section
open Go.RowKit

/-- Is an integer a block size? -/
def isB (n : Int) : Bool := decide (0 ≤ n ∧ IsSize n.toNat)
theorem isB_nat (m : Nat) : isB (m : Int) = decide (IsSize m) := by simp [isB]
theorem validS_isB (n : Int) : validS n = isB n := by
  unfold validS nextS isB
  by_cases h : n < 0 ∨ 6144 < n
  · rw [if_pos h]
    have hno : ¬ (0 ≤ n ∧ IsSize n.toNat) := fun ⟨h1, h2⟩ => by
      unfold IsSize at h2
      omega
    simp [hno]
  · rw [if_neg h]
    obtain ⟨m, rfl⟩ : ∃ m : Nat, n = m := ⟨n.toNat, by omega⟩
    have := nextN_self (n := m) (by omega)
    simp only [Int.toNat_natCast, Int.natCast_nonneg, true_and, decide_true, Bool.true_and]
    rw [decide_eq_decide, ← this]
    exact Int.natCast_inj
theorem isB_out {n : Int} (h : n < 40 ∨ 6144 < n) : isB n = false := by
  unfold isB IsSize
  rw [decide_eq_false_iff_not]
  omega
set_option maxHeartbeats 1000000 in
theorem refValid_mid {m : Nat} {w : World} (h1 : 40 ≤ m) (h2 : m ≤ 6144) :
    Calls Tryd.prog 29 #[.int .i64 (m : Int)] w fun e w' => e = .returned (.bool (decide (IsSize m))) ∧ w' = w := by
  go_enter Tryd.func29, Tryd.ntmps29
  go_wp2_with fail
  all_goals (go_ret; exact ⟨ret_bool (by rw [Bool.eq_iff_iff, decide_eq_true_iff]; unfold IsSize; simp only [beq_iff_eq, Bool.false_eq_true, false_iff, true_iff]; omega), rfl⟩)
set_option maxHeartbeats 1000000 in
theorem refValid_any {n : Int} {w : World} :
    Calls Tryd.prog 29 #[.int .i64 n] w fun e w' => e = .returned (.bool (isB n)) ∧ w' = w := by
  by_cases h : n < 40 ∨ 6144 < n
  · have hb := Lib.hid (isB_out h)
    rcases h with h | h
    · go_enter Tryd.func29, Tryd.ntmps29
      go_wp2_with fail
      all_goals first | (exfalso; omega) | (go_ret; exact ⟨ret_bool hb.out.symm, rfl⟩)
    · go_enter Tryd.func29, Tryd.ntmps29
      go_wp2_with fail
      all_goals first | (exfalso; omega) | (go_ret; exact ⟨ret_bool hb.out.symm, rfl⟩)
  · obtain ⟨m, rfl⟩ : ∃ m : Nat, n = m := ⟨n.toNat, by omega⟩
    rw [isB_nat]
    exact refValid_mid (by omega) (by omega)
end
end Go.Proofs.YtfplklbicimhkaaDoor
