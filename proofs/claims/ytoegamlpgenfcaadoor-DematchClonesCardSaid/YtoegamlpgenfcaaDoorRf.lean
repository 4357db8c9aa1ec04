/-
  The reference's Clamp, Add, Valid, Binary, Least, Compare.
-/
import Derived.Test.YtoegamlpgenfcaaDoorCn
namespace Go.Proofs.YtoegamlpgenfcaaDoor
open Go.RowKit Go.Shelf

theorem refClamp_any {v : Int} {w : World} : Calls Tryd.prog 74 #[.int .i64 v] w fun e w' => e = .returned (.int .i64 (clampI v)) ∧ w' = w := by
  unfold clampI
  by_cases h1 : 127 < v
  · rw [if_pos h1]
    go_enter Tryd.func74, Tryd.ntmps74
    go_wp2
    go_ret
    exact ⟨rfl, rfl⟩
  · rw [if_neg h1]
    by_cases h2 : v < -127
    · rw [if_pos h2]
      go_enter Tryd.func74, Tryd.ntmps74
      go_wp2
      go_ret
      exact ⟨rfl, rfl⟩
    · rw [if_neg h2]
      go_enter Tryd.func74, Tryd.ntmps74
      go_wp2
      go_ret
      exact ⟨rfl, rfl⟩
set_option maxHeartbeats 1000000 in
theorem refAdd_any {a b : Int} {w : World} : Calls Tryd.prog 59 #[.int .i64 a, .int .i64 b] w fun e w' => e = .returned (.int .i64 (addI a b)) ∧ w' = w := by
  have h := Lib.hid (fun (v : Int) => refClamp_any (v := v) (w := w))
  have h1 := clampI_range a
  have h2 := clampI_range b
  have hs : Hid (addI a b = clampI (clampI a + clampI b)) := Lib.hid rfl
  have hx := h.out a
  have hy := h.out b
  have hz := h.out (clampI a + clampI b)
  generalize clampI a = x at *
  generalize clampI b = y at *
  rw [← hs.out] at hz
  have hX := Lib.hid hx; have hY := Lib.hid hy; have hZ := Lib.hid hz
  clear h hx hy hz
  go_enter Tryd.func59, Tryd.ntmps59
  go_wp2_with (first | (refine hX.out.mono ?_; rintro e w ⟨rfl, rfl⟩; clear hX) | (refine hY.out.mono ?_; rintro e w ⟨rfl, rfl⟩; clear hY) | (refine hZ.out.mono ?_; rintro e w ⟨rfl, rfl⟩) | fail)
  go_ret
  exact ⟨rfl, rfl⟩
theorem softB_snoc (xs : List Int) (x : Int) : softB (xs ++ [x]) = (softB xs && (decide (-127 ≤ x) && decide (x ≤ 127))) := by
  unfold softB; simp
theorem softB_front {xs : List Int} {k : Nat} (h : softB (xs.take k) = false) : softB xs = false := by
  unfold softB at *
  rw [List.all_eq_false] at h ⊢
  obtain ⟨x, hx, hp⟩ := h
  exact ⟨x, List.mem_of_mem_take hx, hp⟩
set_option maxHeartbeats 1000000 in
theorem refValid_any {A : Option Addr} {n c B : Nat} {xs : List Int} {w : World} (h : Rd .i64 w B A n xs) (hn : n ≤ 140737488351232) :
    Calls Tryd.prog 55 #[.slice A n c] w fun e w' => e = .returned (.bool (softB xs)) ∧ w' = w := by
  have hl := Lib.hid h.len
  go_enter Tryd.func55, Tryd.ntmps55
  go_wp2
  go_loop [3] (fun i => ∃ k : Nat, k ≤ n ∧ i = .int .i64 k ∧ softB (xs.take k) = true) (fun i => n - (intOf i).toNat)
  case atStart => exact ⟨0, Nat.zero_le _, rfl, rfl⟩
  case round =>
    obtain ⟨k, hk, rfl, hv⟩ := hrel
    have hV := Lib.hid hv; clear hv
    by_cases hlt : k < n
    · obtain ⟨b, off, rfl, _, hc⟩ := h.cells k hlt
      have hS := Lib.hid (take_snoc xs k (by rw [hl.out]; exact hlt) 0)
      have hz : (k : Int) < (n : Int) := by omega
      have hz0 : (0 : Int) ≤ (k : Int) := by omega
      have hbad := Lib.hid (fun hx : (decide (-127 ≤ xs[k]?.getD 0) && decide (xs[k]?.getD 0 ≤ 127)) = false => show softB xs = false from softB_front (k := k + 1) (by rw [hS.out, softB_snoc, hx, Bool.and_false]))
      generalize xs[k]?.getD 0 = x at *
      by_cases h1 : 127 < x
      · go_wp2
        go_ret
        exact ⟨ret_bool (hbad.out (by simp; omega)).symm, rfl⟩
      · by_cases h2 : x < -127
        · go_wp2
          go_ret
          exact ⟨ret_bool (hbad.out (by simp; omega)).symm, rfl⟩
        · go_wp2
          go_round
          case rel => exact ⟨k + 1, by omega, by go_num, by rw [hS.out, softB_snoc, hV.out]; simp; omega⟩
          case measure => simp [intOf]; omega
    · obtain rfl : k = n := by omega
      go_wp2
      go_ret
      rw [← hl.out, List.take_length] at hV
      exact ⟨ret_bool hV.out.symm, rfl⟩
theorem refBinary_any {A : Option Addr} {n c B : Nat} {xs : List Int} {w : World} (h : Rd .u8 w B A n xs) (hn : n ≤ 140737488351232) :
    Calls Tryd.prog 56 #[.slice A n c] w fun e w' => e = .returned (.bool (validB xs)) ∧ w' = w := by
  have hl := Lib.hid h.len
  go_enter Tryd.func56, Tryd.ntmps56
  go_wp2
  go_loop [3] (fun i => ∃ k : Nat, k ≤ n ∧ i = .int .i64 k ∧ validB (xs.take k) = true) (fun i => n - (intOf i).toNat)
  case atStart => exact ⟨0, Nat.zero_le _, rfl, rfl⟩
  case round =>
    obtain ⟨k, hk, rfl, hv⟩ := hrel
    have hV := Lib.hid hv; clear hv
    by_cases hlt : k < n
    · obtain ⟨b, off, rfl, _, hc⟩ := h.cells k hlt
      have hS := Lib.hid (take_snoc xs k (by rw [hl.out]; exact hlt) 0)
      go_wp2
      · go_ret
        have hx : 1 < xs[k]?.getD 0 := by assumption
        refine ⟨ret_bool (Eq.symm ?_), rfl⟩
        have : validB (xs.take (k + 1)) = false := by rw [hS.out, validB_snoc]; simp; intro _; exact hx
        exact validB_prefix this
      · go_round
        case rel => exact ⟨k + 1, by omega, by go_num, by rw [hS.out, validB_snoc, hV.out]; simp; omega⟩
        case measure => simp [intOf]; omega
    · obtain rfl : k = n := by omega
      go_wp2
      go_ret
      rw [← hl.out, List.take_length] at hV
      exact ⟨ret_bool hV.out.symm, rfl⟩
end Go.Proofs.YtoegamlpgenfcaaDoor
