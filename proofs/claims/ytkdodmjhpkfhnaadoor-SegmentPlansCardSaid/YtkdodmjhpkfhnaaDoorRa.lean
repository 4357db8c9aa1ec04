/-
  The references of Valid, Next.
-/
import Derived.Test.YtkdodmjhpkfhnaaDoorPh
namespace Go.Proofs.YtkdodmjhpkfhnaaDoor
open Go.RowKit

/-- Is an integer a block size? -/
def isB (n : Int) : Bool := decide (0 ≤ n ∧ IsSize n.toNat)
theorem isB_nat (m : Nat) : isB (m : Int) = decide (IsSize m) := by simp [isB]
theorem validS_isB (n : Int) : validS n = isB n := by
  unfold validS nextS isB
  by_cases h : n < 0 ∨ 6144 < n
  · rw [if_pos h]
    have hno : ¬ (0 ≤ n ∧ IsSize n.toNat) := fun ⟨h1, h2⟩ => by
      unfold IsSize at h2
      omega
    simp [hno]
  · rw [if_neg h]
    obtain ⟨m, rfl⟩ : ∃ m : Nat, n = m := ⟨n.toNat, by omega⟩
    have := nextN_self (n := m) (by omega)
    simp only [Int.toNat_natCast, Int.natCast_nonneg, true_and, decide_true, Bool.true_and]
    rw [decide_eq_decide, ← this]
    exact Int.natCast_inj
theorem isB_out {n : Int} (h : n < 40 ∨ 6144 < n) : isB n = false := by
  unfold isB IsSize
  rw [decide_eq_false_iff_not]
  omega
set_option maxHeartbeats 1000000 in
theorem refValid_mid {m : Nat} {w : World} (h1 : 40 ≤ m) (h2 : m ≤ 6144) :
    Calls Tryd.prog 16 #[.int .i64 (m : Int)] w fun e w' => e = .returned (.bool (decide (IsSize m))) ∧ w' = w := by
  go_enter Tryd.func16, Tryd.ntmps16
  go_wp2_with fail
  all_goals (go_ret; exact ⟨ret_bool (by rw [Bool.eq_iff_iff, decide_eq_true_iff]; unfold IsSize; simp only [beq_iff_eq, Bool.false_eq_true, false_iff, true_iff]; omega), rfl⟩)
set_option maxHeartbeats 1000000 in
theorem refValid_any {n : Int} {w : World} :
    Calls Tryd.prog 16 #[.int .i64 n] w fun e w' => e = .returned (.bool (isB n)) ∧ w' = w := by
  by_cases h : n < 40 ∨ 6144 < n
  · have hb := Lib.hid (isB_out h)
    rcases h with h | h
    · go_enter Tryd.func16, Tryd.ntmps16
      go_wp2_with fail
      all_goals first | (exfalso; omega) | (go_ret; exact ⟨ret_bool hb.out.symm, rfl⟩)
    · go_enter Tryd.func16, Tryd.ntmps16
      go_wp2_with fail
      all_goals first | (exfalso; omega) | (go_ret; exact ⟨ret_bool hb.out.symm, rfl⟩)
  · obtain ⟨m, rfl⟩ : ∃ m : Nat, n = m := ⟨n.toNat, by omega⟩
    rw [isB_nat]
    exact refValid_mid (by omega) (by omega)
set_option maxHeartbeats 1000000 in
theorem refNext_any {n : Int} {w : World} :
    Calls Tryd.prog 11 #[.int .i64 n] w fun e w' => e = .returned (.tuple #[.int .i64 (nextS n).1, .int .i64 (nextS n).2]) ∧ w' = w := by
  by_cases h : n < 0 ∨ 6144 < n
  · have hb : Hid (nextS n = (0, 2)) := Lib.hid (by unfold nextS; rw [if_pos h])
    rcases h with h | h
    · go_enter Tryd.func11, Tryd.ntmps11
      go_wp2_with fail
      all_goals first | (exfalso; omega) | (go_ret2; exact ⟨by rw [hb.out]; rfl, rfl⟩)
    · go_enter Tryd.func11, Tryd.ntmps11
      go_wp2_with fail
      all_goals first | (exfalso; omega) | (go_ret2; exact ⟨by rw [hb.out]; rfl, rfl⟩)
  · obtain ⟨m, rfl⟩ : ∃ m : Nat, n = m := ⟨n.toNat, by omega⟩
    have hm : m ≤ 6144 := by omega
    have hb : Hid (nextS (m : Int) = (((nextN m : Nat) : Int), 0)) := Lib.hid (by unfold nextS; rw [if_neg h, Int.toNat_natCast])
    have hg := Lib.hid (nextN_ge hm)
    have hv := Lib.hid (fun (k : Nat) (u : World) => refValid_any (n := (k : Int)) (w := u))
    clear h
    go_enter Tryd.func11, Tryd.ntmps11
    go_wp2_with fail
    go_loop [0] (fun i => ∃ k : Nat, m ≤ k ∧ k ≤ nextN m ∧ i = .int .i64 (k : Int)) (fun i => nextN m - (intOf i).toNat)
    case atStart => exact ⟨m, Nat.le_refl _, hg.out.1, rfl⟩
    case round =>
      obtain ⟨k, hk1, hk2, rfl⟩ := hrel
      by_cases hke : k = nextN m
      · have hs : Hid (isB (k : Int) = true) := Lib.hid (by rw [isB_nat, hke]; exact decide_eq_true (nextN_size hm))
        have hke' := Lib.hid hke
        clear hke
        go_wp2_with (go_at_call 16; refine (hv.out _ _).mono ?_; rintro e w1 ⟨rfl, rfl⟩; rw [hs.out])
        go_ret2
        exact ⟨by rw [hb.out, ← hke'.out]; rfl, rfl⟩
      · have hs : Hid (isB (k : Int) = false) := Lib.hid (by rw [isB_nat]; exact decide_eq_false (nextN_least hk1 (by omega)))
        have hg2 := hg.out.2
        have hk3 : k < nextN m := by omega
        have hk4 : k < 6144 := by omega
        clear hg2 hke
        have HK3 := Lib.hid hk3
        clear hk3
        go_wp2_with (go_at_call 16; refine (hv.out _ _).mono ?_; rintro e w1 ⟨rfl, rfl⟩; rw [hs.out])
        go_round
        case rel => exact ⟨k + 1, by omega, HK3.out, by go_num⟩
        case measure => have := HK3.out; simp [intOf]; omega
end Go.Proofs.YtkdodmjhpkfhnaaDoor
