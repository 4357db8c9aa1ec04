/-
  below, fits, Init and the reference's Init; one step of a register.
-/
import Derived.Test.YtofcjcmbbkiaaaaSm
import Derived.Test.YtofcjcmbbkiaaaaGoldM
namespace Go.Proofs.Ytofcjcmbbkiaaaa
open Go.RowKit

theorem below_any {v e : Int} {w : World} : Calls Try.prog 25 #[.int .i64 v, .int .i64 e] w fun r w' => r = .returned (.bool (decide (0 ≤ v ∧ v < e))) ∧ w' = w := by
  by_cases h1 : 0 ≤ v
  · by_cases h2 : v < e
    · go_enter Try.func25, Try.ntmps25
      go_wp2_with fail
      go_ret
      exact ⟨ret_bool (by simp [h1, h2]), rfl⟩
    · go_enter Try.func25, Try.ntmps25
      go_wp2_with fail
      go_ret
      exact ⟨ret_bool (by simp; omega), rfl⟩
  · go_enter Try.func25, Try.ntmps25
    go_wp2_with fail
    go_ret
    exact ⟨ret_bool (by simp; omega), rfl⟩
theorem fits_any {v : Int} {w : World} (hv : 0 ≤ v ∧ v < 4294967296) : Calls Try.prog 26 #[.int .u32 v] w fun r w' => r = .returned (.bool (decide (v < 2147483648))) ∧ w' = w := by
  have e : (v / 2147483648 = 0) ↔ v < 2147483648 := by omega
  go_enter Try.func26, Try.ntmps26
  go_wp2_with fail
  go_ret
  exact ⟨ret_bool (by rw [Bool.eq_iff_iff]; simpa using e), rfl⟩
theorem and1_u32 {x : Int} (h0 : 0 ≤ x) (h1 : x < 4294967296) : bits .and .u32 x 1 = x % 2 := by
  obtain ⟨a, rfl⟩ := Int.eq_ofNat_of_zero_le h0
  have := bits_and_u .u32 rfl a 1 (by simp [IntKind.bits]; omega) (by decide)
  rw [Nat.and_one_is_mod] at this
  exact this.trans (by omega)
theorem or_top {r b : Int} (hr : 0 ≤ r ∧ r < 2147483648) (hb : b = 0 ∨ b = 1) : bits .or .u32 (r / 2) (b * 1073741824 % 4294967296) = r / 2 + 1073741824 * b := by
  obtain ⟨a, rfl⟩ := Int.eq_ofNat_of_zero_le hr.1
  obtain ⟨c, rfl, hc⟩ : ∃ c : Nat, b = (c : Int) ∧ c ≤ 1 := by
    rcases hb with rfl | rfl
    · exact ⟨0, rfl, by omega⟩
    · exact ⟨1, rfl, by omega⟩
  have h := bits_or_u .u32 rfl (a / 2) (c * 1073741824) (by simp [IntKind.bits]; omega) (by simp [IntKind.bits]; omega)
  have e := Nat.shiftLeft_add_eq_or_of_lt (i := 30) (b := a / 2) (by omega) c
  rw [Nat.or_comm, ← Nat.shiftLeft_eq c 30, ← e, Nat.shiftLeft_eq] at h
  have e2 : ((c : Int) * 1073741824 % 4294967296) = ((c * 1073741824 : Nat) : Int) := by omega
  have e3 : ((a : Int) / 2) = ((a / 2 : Nat) : Int) := by omega
  rw [e2, e3, h]
  omega
theorem shift_any {r x : Int} {w : World} (hr : 0 ≤ r ∧ r < 2147483648) (hx : 0 ≤ x ∧ x < 4294967296) :
    Calls Try.prog 40 #[.int .u32 r, .int .u32 x] w fun e w' => e = .returned (.int .u32 (r / 2 + 1073741824 * (x % 2))) ∧ w' = w := by
  have h1 := Lib.hid (and1_u32 hx.1 hx.2)
  have h2 := Lib.hid (or_top hr (b := x % 2) (by omega))
  go_enter Try.func40, Try.ntmps40
  go_wp2_with fail
  rw [h1.out, h2.out]
  go_ret
  exact ⟨rfl, rfl⟩

/-- The initial value of a transmission. -/
def initI (r t c : Int) : Int := 16384 * r + 512 * (t % 10) + c
def okI (r t c : Int) : Bool := decide (0 ≤ r ∧ r < 65536) && (decide (0 ≤ t ∧ t < 1073741824) && decide (0 ≤ c ∧ c < 504))
def initS (r t c : Int) : Int × Int := if okI r t c then (initI r t c, 0) else (0, 2)
theorem init_any {r t c : Int} {w : World} :
    Calls Try.prog 12 #[.int .i64 r, .int .i64 t, .int .i64 c] w fun e w' => e = .returned (.tuple #[.int .u32 (initS r t c).1, .int .i64 (initS r t c).2]) ∧ w' = w := by
  have b1 := below_any (v := r) (e := 65536) (w := w)
  have b2 := below_any (v := t) (e := 1073741824) (w := w)
  have b3 := below_any (v := c) (e := 504) (w := w)
  by_cases h1 : 0 ≤ r ∧ r < 65536
  · rw [decide_eq_true h1] at b1
    by_cases h2 : 0 ≤ t ∧ t < 1073741824
    · rw [decide_eq_true h2] at b2
      by_cases h3 : 0 ≤ c ∧ c < 504
      · rw [decide_eq_true h3] at b3
        have e : initS r t c = (initI r t c, 0) := by unfold initS okI; simp [h1, h2, h3]
        rw [e]
        unfold initI
        have e2 : r * 16384 + t % 10 * 512 + c = 16384 * r + 512 * (t % 10) + c := by omega
        have E2 := Lib.hid e2; clear e2
        go_enter Try.func12, Try.ntmps12
        go_wp2_with fail
        refine b1.mono ?_
        rintro e w1 ⟨rfl, rfl⟩
        clear b1
        go_wp2_with fail
        refine b2.mono ?_
        rintro e w1 ⟨rfl, rfl⟩
        clear b2
        go_wp2_with fail
        refine b3.mono ?_
        rintro e w1 ⟨rfl, rfl⟩
        clear b3
        go_wp2_with fail
        go_ret2
        exact ⟨by rw [← E2.out]; rfl, rfl⟩
      · rw [decide_eq_false h3] at b3
        have e : initS r t c = (0, 2) := by unfold initS okI; simp [h1, h2, h3]
        rw [e]
        go_enter Try.func12, Try.ntmps12
        go_wp2_with fail
        refine b1.mono ?_
        rintro e w1 ⟨rfl, rfl⟩
        clear b1
        go_wp2_with fail
        refine b2.mono ?_
        rintro e w1 ⟨rfl, rfl⟩
        clear b2
        go_wp2_with fail
        refine b3.mono ?_
        rintro e w1 ⟨rfl, rfl⟩
        clear b3
        go_wp2_with fail
        go_ret2
        exact ⟨rfl, rfl⟩
    · rw [decide_eq_false h2] at b2
      have e : initS r t c = (0, 2) := by unfold initS okI; simp [h1, h2]
      rw [e]
      go_enter Try.func12, Try.ntmps12
      go_wp2_with fail
      refine b1.mono ?_
      rintro e w1 ⟨rfl, rfl⟩
      clear b1
      go_wp2_with fail
      refine b2.mono ?_
      rintro e w1 ⟨rfl, rfl⟩
      clear b2
      go_wp2_with fail
      go_ret2
      exact ⟨rfl, rfl⟩
  · rw [decide_eq_false h1] at b1
    have e : initS r t c = (0, 2) := by unfold initS okI; simp [h1]
    rw [e]
    go_enter Try.func12, Try.ntmps12
    go_wp2_with fail
    refine b1.mono ?_
    rintro e w1 ⟨rfl, rfl⟩
    clear b1
    go_wp2_with fail
    go_ret2
    exact ⟨rfl, rfl⟩
theorem refInit_any {r t c : Int} {w : World} :
    Calls Try.prog 13 #[.int .i64 r, .int .i64 t, .int .i64 c] w fun e w' => e = .returned (.tuple #[.int .u32 (initS r t c).1, .int .i64 (initS r t c).2]) ∧ w' = w := by
  by_cases h1 : 0 ≤ r ∧ r < 65536
  · by_cases h2 : 0 ≤ t ∧ t < 1073741824
    · by_cases h3 : 0 ≤ c ∧ c < 504
      · have e : initS r t c = (initI r t c, 0) := by unfold initS okI; simp [h1, h2, h3]
        rw [e]
        unfold initI
        obtain ⟨r1, r2⟩ := h1
        obtain ⟨t1, t2⟩ := h2
        obtain ⟨c1, c2⟩ := h3
        go_enter Try.func13, Try.ntmps13
        go_wp2_with fail
        go_ret2
        exact ⟨rfl, rfl⟩
      · have e : initS r t c = (0, 2) := by unfold initS okI; simp [h1, h2, h3]
        rw [e]
        go_enter Try.func13, Try.ntmps13
        go_wp2_with fail
        all_goals (go_ret2; exact ⟨rfl, rfl⟩)
    · have e : initS r t c = (0, 2) := by unfold initS okI; simp [h1, h2]
      rw [e]
      go_enter Try.func13, Try.ntmps13
      go_wp2_with fail
      all_goals (go_ret2; exact ⟨rfl, rfl⟩)
  · have e : initS r t c = (0, 2) := by unfold initS okI; simp [h1]
    rw [e]
    go_enter Try.func13, Try.ntmps13
    go_wp2_with fail
    all_goals (go_ret2; exact ⟨rfl, rfl⟩)
end Go.Proofs.Ytofcjcmbbkiaaaa
