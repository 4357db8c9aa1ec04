/-
  The reference: Rows, Column, Order.
-/
import Derived.Test.YtnmkladmohjdnaaDoorMk
namespace Go.Proofs.YtnmkladmohjdnaaDoor
open Go.RowKit Go.Shelf

set_option maxHeartbeats 1000000 in
theorem refRows_any {d : Int} {w : World} : Calls Tryd.prog 28 #[.int .i64 d] w fun e w' => e = .returned (.int .i64 (rowsI d)) ∧ w' = w := by
  unfold rowsI
  by_cases h : okD d = true
  · rw [if_pos h]
    obtain ⟨k, rfl, h1, h2⟩ := okD_nat h
    have hr := rows_le h1 h2
    rw [Int.toNat_natCast]
    generalize rowsN k = R at *
    obtain ⟨r1, r2, r3, r4⟩ := hr
    clear h
    go_enter Tryd.func28, Tryd.ntmps28
    go_wp2_with fail
    go_loop [3] (fun i => ∃ j : Nat, j ≤ R ∧ i = .int .i64 (j : Int)) (fun i => R - (intOf i).toNat)
    case atStart => exact ⟨0, Nat.zero_le _, rfl⟩
    case round =>
      obtain ⟨j, hj, rfl⟩ := hrel
      by_cases hlt : j < R
      · have hd : 32 * (j : Int) < (k : Int) := by omega
        go_wp2_with fail
        go_round
        case rel => exact ⟨j + 1, by omega, by go_num⟩
        case measure => simp [intOf]; omega
      · obtain rfl : j = R := by omega
        have hd : ¬ (32 * (j : Int) < (k : Int)) := by omega
        go_wp2_with fail
        go_ret
        exact ⟨rfl, rfl⟩
  · rw [if_neg h]
    have h' : ¬ (1 ≤ d) ∨ ¬ (d ≤ 6148) := by
      by_cases h1 : 1 ≤ d
      · right; intro h2; exact h (by simp [okD, h1, h2])
      · exact .inl h1
    clear h
    by_cases h1 : d < 1
    · go_enter Tryd.func28, Tryd.ntmps28
      go_wp2_with fail
      go_ret
      exact ⟨rfl, rfl⟩
    · have h2 : 6148 < d := by omega
      clear h'
      go_enter Tryd.func28, Tryd.ntmps28
      go_wp2_with fail
      go_ret
      exact ⟨rfl, rfl⟩
theorem col_lit {w : World} {j : Nat} (hj : j < 32) : (w.alloc (.cells #[.int .i64 0, .int .i64 16, .int .i64 8, .int .i64 24, .int .i64 4, .int .i64 20, .int .i64 12, .int .i64 28, .int .i64 2, .int .i64 18, .int .i64 10, .int .i64 26, .int .i64 6, .int .i64 22, .int .i64 14, .int .i64 30, .int .i64 1, .int .i64 17, .int .i64 9, .int .i64 25, .int .i64 5, .int .i64 21, .int .i64 13, .int .i64 29, .int .i64 3, .int .i64 19, .int .i64 11, .int .i64 27, .int .i64 7, .int .i64 23, .int .i64 15, .int .i64 31] 3)).cell? ⟨w.heap.size, j, none⟩ = some (.int .i64 (colN j : Nat)) := by
  have h1 : (w.alloc (.cells #[.int .i64 0, .int .i64 16, .int .i64 8, .int .i64 24, .int .i64 4, .int .i64 20, .int .i64 12, .int .i64 28, .int .i64 2, .int .i64 18, .int .i64 10, .int .i64 26, .int .i64 6, .int .i64 22, .int .i64 14, .int .i64 30, .int .i64 1, .int .i64 17, .int .i64 9, .int .i64 25, .int .i64 5, .int .i64 21, .int .i64 13, .int .i64 29, .int .i64 3, .int .i64 19, .int .i64 11, .int .i64 27, .int .i64 7, .int .i64 23, .int .i64 15, .int .i64 31] 3)).heap[w.heap.size]? = some (.cells #[.int .i64 0, .int .i64 16, .int .i64 8, .int .i64 24, .int .i64 4, .int .i64 20, .int .i64 12, .int .i64 28, .int .i64 2, .int .i64 18, .int .i64 10, .int .i64 26, .int .i64 6, .int .i64 22, .int .i64 14, .int .i64 30, .int .i64 1, .int .i64 17, .int .i64 9, .int .i64 25, .int .i64 5, .int .i64 21, .int .i64 13, .int .i64 29, .int .i64 3, .int .i64 19, .int .i64 11, .int .i64 27, .int .i64 7, .int .i64 23, .int .i64 15, .int .i64 31] 3) := World.alloc_heap_new w _
  simp only [World.cell?, h1]
  have e : (#[.int .i64 0, .int .i64 16, .int .i64 8, .int .i64 24, .int .i64 4, .int .i64 20, .int .i64 12, .int .i64 28, .int .i64 2, .int .i64 18, .int .i64 10, .int .i64 26, .int .i64 6, .int .i64 22, .int .i64 14, .int .i64 30, .int .i64 1, .int .i64 17, .int .i64 9, .int .i64 25, .int .i64 5, .int .i64 21, .int .i64 13, .int .i64 29, .int .i64 3, .int .i64 19, .int .i64 11, .int .i64 27, .int .i64 7, .int .i64 23, .int .i64 15, .int .i64 31] : Array Value) = (colL.map fun c : Nat => Value.int .i64 (c : Int)).toArray := rfl
  have e2 : colL[j]? = some (colN j) := by
    unfold colN
    rw [List.getElem?_eq_getElem (show j < colL.length from hj)]
    rfl
  rw [e, List.getElem?_toArray, List.getElem?_map, e2]
  rfl
theorem refColumn_any {k : Int} {w : World} : Calls Tryd.prog 34 #[.int .i64 k] w fun e w' => e = .returned (.int .i64 (colI k)) ∧ w.grownBy w' none := by
  unfold colI
  have hG := World.grownBy_alloc w (.cells #[.int .i64 0, .int .i64 16, .int .i64 8, .int .i64 24, .int .i64 4, .int .i64 20, .int .i64 12, .int .i64 28, .int .i64 2, .int .i64 18, .int .i64 10, .int .i64 26, .int .i64 6, .int .i64 22, .int .i64 14, .int .i64 30, .int .i64 1, .int .i64 17, .int .i64 9, .int .i64 25, .int .i64 5, .int .i64 21, .int .i64 13, .int .i64 29, .int .i64 3, .int .i64 19, .int .i64 11, .int .i64 27, .int .i64 7, .int .i64 23, .int .i64 15, .int .i64 31] 3) none
  have hG0 : w.grownBy w none := ⟨rfl, rfl, rfl, Nat.le_refl _, fun _ _ _ => rfl⟩
  by_cases h0 : k < 0
  · rw [if_neg (by simp; omega)]
    clear hG
    go_enter Tryd.func34, Tryd.ntmps34
    go_wp2_with fail
    go_ret
    exact ⟨rfl, hG0⟩
  · by_cases h1 : 32 ≤ k
    · rw [if_neg (by simp; omega)]
      have h2 : 31 < k := by omega
      clear hG
      go_enter Tryd.func34, Tryd.ntmps34
      go_wp2_with fail
      go_ret
      exact ⟨rfl, hG0⟩
    · rw [if_pos (by simp; omega)]
      obtain ⟨j, rfl⟩ : ∃ j : Nat, k = (j : Int) := ⟨k.toNat, by omega⟩
      have hj : j < 32 := by omega
      have hc := col_lit (w := w) hj
      have h2 : ¬ (31 < (j : Int)) := by omega
      rw [Int.toNat_natCast]
      generalize colN j = c at *
      clear h0 h1
      go_enter Tryd.func34, Tryd.ntmps34
      go_wp2_with fail
      go_ret
      exact ⟨rfl, hG⟩
end Go.Proofs.YtnmkladmohjdnaaDoor
