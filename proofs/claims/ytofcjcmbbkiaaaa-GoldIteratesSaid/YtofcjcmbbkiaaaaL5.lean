/-
  GoldIterates: the walk of the law, all cases.
-/
import Derived.Test.YtofcjcmbbkiaaaaL4
namespace Go.Proofs.Ytofcjcmbbkiaaaa
open Go.RowKit

set_option maxRecDepth 100000 in
set_option maxHeartbeats 1000000 in
theorem iterates_walk {x n m : Int} {w : World} (hx : 0 ≤ x ∧ x < 4294967296) :
    Calls Try.prog 5 #[.int .u32 x, .int .i64 n, .int .i64 m] w fun e w' => e = .returned (.bool true) ∧ Below w.heap.size w w' := by
  by_cases hnm : (1 ≤ n ∧ n ≤ 500) ∧ (1 ≤ m ∧ m ≤ 500)
  · by_cases h : x < 2147483648
    · obtain ⟨v, hv, _⟩ := nat_of hx
      exact callsIn_wide.1 (iterates_in (d := 8) (by decide) (v := v) hv.symm (by omega) hnm.1 hnm.2)
    · exact callsIn_wide.1 (iterates_no (d := 8) (by decide) (by omega) hnm.1 hnm.2)
  · have hk := Lib.hid (known_any (w := w))
    have hc : n < 1 ∨ (1 ≤ n ∧ 500 < n) ∨ (1 ≤ n ∧ n ≤ 500 ∧ m < 1) ∨ (1 ≤ n ∧ n ≤ 500 ∧ 1 ≤ m ∧ 500 < m) := by omega
    clear hnm hx
    rcases hc with hc | ⟨h1, hc⟩ | ⟨h1, h2, hc⟩ | ⟨h1, h2, h3, hc⟩
    all_goals
      go_enter Try.func5, Try.ntmps5
      go_wp2_with fail
      refine hk.out.mono ?_
      rintro e w8 ⟨rfl, hb8⟩
      go_wp2_with fail
      go_ret
      exact ⟨rfl, hb8⟩
end Go.Proofs.Ytofcjcmbbkiaaaa
