/-
  The law SegmentBounds's walk. (Made by genL6.py.)
-/
import Derived.Test.YtkdodmjhpkfhnaaDoorL2
namespace Go.Proofs.YtkdodmjhpkfhnaaDoor
open Go.RowKit

theorem zeros_valid (n : Nat) : validB (List.replicate n 0) = true := by simp [validB]
theorem splitS_zeros {n : Nat} (h1 : 1 ≤ n) (h2 : n ≤ 79560) : splitS (List.replicate n 0) = (splitL (List.replicate n 0), 0) := by
  unfold splitS
  rw [if_neg (by rw [List.length_replicate]; omega), if_neg (by rw [zeros_valid]; simp)]
theorem splitS_out {n : Nat} (h : n < 1 ∨ 79560 < n) : splitS (List.replicate n 0) = ([], 2) := by
  unfold splitS
  rw [if_pos (by rw [List.length_replicate]; exact h)]
set_option maxRecDepth 100000 in
set_option maxHeartbeats 2000000 in
theorem bounds_a {w : World} (hK : Kinds w) :
    Calls Tryd.prog 8 #[.int .i64 0, .bool false] w fun e w' => e = .returned (.bool true) ∧ Below w.heap.size w w' := by
  have hN := Lib.hid (fun (u : World) (h : Below w.heap.size w u) => Plan_any (b := 1) (hK.step h))
  have hW := Lib.hid (fun (u : World) (h : Below w.heap.size w u) => works_any (hK.step h))
  rw [show planS 1 = (⟨1, 1, 40, 0, 1, 0, 39⟩, 0) from by decide +kernel] at hN
  have heq := layout_eql ⟨0, 0, 0, 0, 0, 0, 0⟩
  unfold layV layA at *
  skip
  simp only [Int.cast_ofNat_Int] at hN heq
  go_enter Tryd.func8, Tryd.ntmps8
  go_wp2_with fail
  refine (hN.out _ (Below.refl _ _)).mono ?_
  rintro e w1 ⟨rfl, hb1⟩
  have hmk := make_bytes 1 1 (Nat.le_refl _) (by omega)
  simp only [Int.cast_ofNat_Int] at hmk
  have hb2 := hb1.alloc hb1.size (.cells (layA ⟨1, 1, 40, 0, 1, 0, 39⟩) 34)
  have hL := LayAt.new w1 34 ⟨1, 1, 40, 0, 1, 0, 39⟩
  unfold layA at hb2 hL
  simp only [Int.cast_ofNat_Int] at hb2
  go_wp2_with fail
  have hown := own_zeros (w := w1.alloc (.cells (layA ⟨1, 1, 40, 0, 1, 0, 39⟩) 34)) (B := (w1.alloc (.cells (layA ⟨1, 1, 40, 0, 1, 0, 39⟩) 34)).heap.size) (n := 1) (m := 1) (Nat.le_refl _) (by omega) (Nat.le_refl _)
  have hb3 := hb2.alloc hb2.size (.cells (madeCells #[.int .u8 0] 1) 5)
  have hL2 := hL.alloc (.cells (madeCells #[.int .u8 0] 1) 5)
  unfold layA at hown
  simp only [Int.cast_ofNat_Int, World.size_alloc] at hown hL2
  generalize (w1.alloc (.cells #[.int .i64 1, .int .i64 1, .int .i64 40, .int .i64 0, .int .i64 1, .int .i64 0, .int .i64 39] 34)).alloc (.cells (madeCells #[.int .u8 0] 1) 5) = W2 at *
  have hSp := Split_any (c := 1) (hK.step hb3) (Rd.of_own hown) (Nat.le_refl _) (Byte.of_mem (fun x hx => by have := (List.mem_replicate.1 hx).2; omega))
  rw [splitS_zeros (by omega) (by omega)] at hSp
  refine hSp.mono ?_
  rintro e w4 ⟨A4, c4, rows, rfl, hOR, _⟩
  have hL4 := hL2.below hOR.below hL2.lt
  have hb4 := hb3.trans (hOR.below.mono hb3.size)
  simp only
  generalize (splitL (List.replicate 1 0)).length = m
  obtain ⟨c0, c1, c2, c3, c4', c5, c6⟩ := hL4.all
  simp only [Int.cast_ofNat_Int] at c0 c1 c2 c3 c4' c5 c6
  clear hown hL2 hL4 hSp hOR hb3 hb2 hL hmk hb1 hN
  go_wp2_with (go_at_call 17; refine num_any.mono ?_; rintro e w7 ⟨rfl, rfl⟩)
  refine (hW.out _ hb4).mono ?_
  rintro e w9 ⟨rfl, hb9⟩
  replace hb9 := hb4.trans (hb9.mono hb4.size)
  go_wp2_with fail
  go_ret
  exact ⟨rfl, hb9⟩
set_option maxRecDepth 100000 in
set_option maxHeartbeats 2000000 in
theorem bounds_b {w : World} (hK : Kinds w) :
    Calls Tryd.prog 8 #[.int .i64 0, .bool true] w fun e w' => e = .returned (.bool true) ∧ Below w.heap.size w w' := by
  have hN := Lib.hid (fun (u : World) (h : Below w.heap.size w u) => Plan_any (b := 0) (hK.step h))
  have hW := Lib.hid (fun (u : World) (h : Below w.heap.size w u) => works_any (hK.step h))
  rw [show planS 0 = (zeroLay, 2) from by decide +kernel] at hN
  have heq := layout_eql ⟨0, 0, 0, 0, 0, 0, 0⟩
  unfold layV layA at *
  unfold zeroLay at hN
  simp only [Int.cast_ofNat_Int] at hN heq
  go_enter Tryd.func8, Tryd.ntmps8
  go_wp2_with fail
  refine (hN.out _ (Below.refl _ _)).mono ?_
  rintro e w1 ⟨rfl, hb1⟩
  have hmk := make_bytes 0 0 (Nat.le_refl _) (by omega)
  simp only [Int.cast_ofNat_Int] at hmk
  have hb2 := hb1.alloc hb1.size (.cells (layA ⟨0, 0, 0, 0, 0, 0, 0⟩) 34)
  have hL := LayAt.new w1 34 ⟨0, 0, 0, 0, 0, 0, 0⟩
  unfold layA at hb2 hL
  simp only [Int.cast_ofNat_Int] at hb2
  go_wp2_with fail
  have hown := own_zeros (w := w1.alloc (.cells (layA ⟨0, 0, 0, 0, 0, 0, 0⟩) 34)) (B := (w1.alloc (.cells (layA ⟨0, 0, 0, 0, 0, 0, 0⟩) 34)).heap.size) (n := 0) (m := 0) (Nat.le_refl _) (by omega) (Nat.le_refl _)
  have hb3 := hb2.alloc hb2.size (.cells (madeCells #[.int .u8 0] 0) 5)
  have hL2 := hL.alloc (.cells (madeCells #[.int .u8 0] 0) 5)
  unfold layA at hown
  simp only [Int.cast_ofNat_Int, World.size_alloc] at hown hL2
  generalize (w1.alloc (.cells #[.int .i64 0, .int .i64 0, .int .i64 0, .int .i64 0, .int .i64 0, .int .i64 0, .int .i64 0] 34)).alloc (.cells (madeCells #[.int .u8 0] 0) 5) = W2 at *
  have hSp := Split_any (c := 0) (hK.step hb3) (Rd.of_own hown) (Nat.le_refl _) (Byte.of_mem (fun x hx => by have := (List.mem_replicate.1 hx).2; omega))
  rw [splitS_out (by omega)] at hSp
  refine hSp.mono ?_
  rintro e w4 ⟨A4, c4, rows, rfl, hOR, _⟩
  have hL4 := hL2.below hOR.below hL2.lt
  have hb4 := hb3.trans (hOR.below.mono hb3.size)
  simp only
  simp only [List.length_nil]
  obtain ⟨c0, c1, c2, c3, c4', c5, c6⟩ := hL4.all
  simp only [Int.cast_ofNat_Int] at c0 c1 c2 c3 c4' c5 c6
  clear hown hL2 hL4 hSp hOR hb3 hb2 hL hmk hb1 hN
  go_wp2_with (go_at_call 17; refine num_any.mono ?_; rintro e w7 ⟨rfl, rfl⟩)
  refine (hW.out _ hb4).mono ?_
  rintro e w9 ⟨rfl, hb9⟩
  replace hb9 := hb4.trans (hb9.mono hb4.size)
  go_wp2_with fail
  go_ret
  exact ⟨rfl, hb9⟩
set_option maxRecDepth 100000 in
set_option maxHeartbeats 2000000 in
theorem bounds_c {w : World} (hK : Kinds w) :
    Calls Tryd.prog 8 #[.int .i64 1, .bool false] w fun e w' => e = .returned (.bool true) ∧ Below w.heap.size w w' := by
  have hN := Lib.hid (fun (u : World) (h : Below w.heap.size w u) => Plan_any (b := 79560) (hK.step h))
  have hW := Lib.hid (fun (u : World) (h : Below w.heap.size w u) => works_any (hK.step h))
  rw [show planS 79560 = (⟨79560, 13, 6144, 6080, 13, 0, 0⟩, 0) from by decide +kernel] at hN
  have heq := layout_eql ⟨0, 0, 0, 0, 0, 0, 0⟩
  unfold layV layA at *
  skip
  simp only [Int.cast_ofNat_Int] at hN heq
  go_enter Tryd.func8, Tryd.ntmps8
  go_wp2_with fail
  refine (hN.out _ (Below.refl _ _)).mono ?_
  rintro e w1 ⟨rfl, hb1⟩
  obtain ⟨n, hn⟩ : ∃ n : Nat, n = 79560 := ⟨_, rfl⟩
  have hmk := make_bytes n n (Nat.le_refl _) (by omega)
  rw [show ((n : Nat) : Int) = 79560 by omega] at hmk
  have hle : n ≤ 100000 := by omega
  have HN := Lib.hid hn
  clear hn
  have hb2 := hb1.alloc hb1.size (.cells (layA ⟨79560, 13, 6144, 6080, 13, 0, 0⟩) 34)
  have hL := LayAt.new w1 34 ⟨79560, 13, 6144, 6080, 13, 0, 0⟩
  unfold layA at hb2 hL
  simp only [Int.cast_ofNat_Int] at hb2
  go_wp2_with fail
  have hown := own_zeros (w := w1.alloc (.cells (layA ⟨79560, 13, 6144, 6080, 13, 0, 0⟩) 34)) (B := (w1.alloc (.cells (layA ⟨79560, 13, 6144, 6080, 13, 0, 0⟩) 34)).heap.size) (n := n) (m := n) (Nat.le_refl _) (by omega) (Nat.le_refl _)
  have hb3 := hb2.alloc hb2.size (.cells (madeCells #[.int .u8 0] n) 5)
  have hL2 := hL.alloc (.cells (madeCells #[.int .u8 0] n) 5)
  unfold layA at hown
  simp only [Int.cast_ofNat_Int, World.size_alloc] at hown hL2
  generalize (w1.alloc (.cells #[.int .i64 79560, .int .i64 13, .int .i64 6144, .int .i64 6080, .int .i64 13, .int .i64 0, .int .i64 0] 34)).alloc (.cells (madeCells #[.int .u8 0] n) 5) = W2 at *
  have hSp := Split_any (c := n) (hK.step hb3) (Rd.of_own hown) (Nat.le_refl _) (Byte.of_mem (fun x hx => by have := (List.mem_replicate.1 hx).2; omega))
  rw [splitS_zeros (by have := HN.out; omega) (by have := HN.out; omega)] at hSp
  refine hSp.mono ?_
  rintro e w4 ⟨A4, c4, rows, rfl, hOR, _⟩
  have hL4 := hL2.below hOR.below hL2.lt
  have hb4 := hb3.trans (hOR.below.mono hb3.size)
  simp only
  generalize (splitL (List.replicate n 0)).length = m
  obtain ⟨c0, c1, c2, c3, c4', c5, c6⟩ := hL4.all
  simp only [Int.cast_ofNat_Int] at c0 c1 c2 c3 c4' c5 c6
  clear hown hL2 hL4 hSp hOR hb3 hb2 hL hmk hb1 hN
  go_wp2_with (go_at_call 17; refine num_any.mono ?_; rintro e w7 ⟨rfl, rfl⟩)
  refine (hW.out _ hb4).mono ?_
  rintro e w9 ⟨rfl, hb9⟩
  replace hb9 := hb4.trans (hb9.mono hb4.size)
  go_wp2_with fail
  go_ret
  exact ⟨rfl, hb9⟩
set_option maxRecDepth 100000 in
set_option maxHeartbeats 2000000 in
theorem bounds_d {w : World} (hK : Kinds w) :
    Calls Tryd.prog 8 #[.int .i64 1, .bool true] w fun e w' => e = .returned (.bool true) ∧ Below w.heap.size w w' := by
  have hN := Lib.hid (fun (u : World) (h : Below w.heap.size w u) => Plan_any (b := 79561) (hK.step h))
  have hW := Lib.hid (fun (u : World) (h : Below w.heap.size w u) => works_any (hK.step h))
  rw [show planS 79561 = (zeroLay, 2) from by decide +kernel] at hN
  have heq := layout_eql ⟨0, 0, 0, 0, 0, 0, 0⟩
  unfold layV layA at *
  unfold zeroLay at hN
  simp only [Int.cast_ofNat_Int] at hN heq
  go_enter Tryd.func8, Tryd.ntmps8
  go_wp2_with fail
  refine (hN.out _ (Below.refl _ _)).mono ?_
  rintro e w1 ⟨rfl, hb1⟩
  obtain ⟨n, hn⟩ : ∃ n : Nat, n = 79561 := ⟨_, rfl⟩
  have hmk := make_bytes n n (Nat.le_refl _) (by omega)
  rw [show ((n : Nat) : Int) = 79561 by omega] at hmk
  have hle : n ≤ 100000 := by omega
  have HN := Lib.hid hn
  clear hn
  have hb2 := hb1.alloc hb1.size (.cells (layA ⟨0, 0, 0, 0, 0, 0, 0⟩) 34)
  have hL := LayAt.new w1 34 ⟨0, 0, 0, 0, 0, 0, 0⟩
  unfold layA at hb2 hL
  simp only [Int.cast_ofNat_Int] at hb2
  go_wp2_with fail
  have hown := own_zeros (w := w1.alloc (.cells (layA ⟨0, 0, 0, 0, 0, 0, 0⟩) 34)) (B := (w1.alloc (.cells (layA ⟨0, 0, 0, 0, 0, 0, 0⟩) 34)).heap.size) (n := n) (m := n) (Nat.le_refl _) (by omega) (Nat.le_refl _)
  have hb3 := hb2.alloc hb2.size (.cells (madeCells #[.int .u8 0] n) 5)
  have hL2 := hL.alloc (.cells (madeCells #[.int .u8 0] n) 5)
  unfold layA at hown
  simp only [Int.cast_ofNat_Int, World.size_alloc] at hown hL2
  generalize (w1.alloc (.cells #[.int .i64 0, .int .i64 0, .int .i64 0, .int .i64 0, .int .i64 0, .int .i64 0, .int .i64 0] 34)).alloc (.cells (madeCells #[.int .u8 0] n) 5) = W2 at *
  have hSp := Split_any (c := n) (hK.step hb3) (Rd.of_own hown) (Nat.le_refl _) (Byte.of_mem (fun x hx => by have := (List.mem_replicate.1 hx).2; omega))
  rw [splitS_out (by have := HN.out; omega)] at hSp
  refine hSp.mono ?_
  rintro e w4 ⟨A4, c4, rows, rfl, hOR, _⟩
  have hL4 := hL2.below hOR.below hL2.lt
  have hb4 := hb3.trans (hOR.below.mono hb3.size)
  simp only
  simp only [List.length_nil]
  obtain ⟨c0, c1, c2, c3, c4', c5, c6⟩ := hL4.all
  simp only [Int.cast_ofNat_Int] at c0 c1 c2 c3 c4' c5 c6
  clear hown hL2 hL4 hSp hOR hb3 hb2 hL hmk hb1 hN
  go_wp2_with (go_at_call 17; refine num_any.mono ?_; rintro e w7 ⟨rfl, rfl⟩)
  refine (hW.out _ hb4).mono ?_
  rintro e w9 ⟨rfl, hb9⟩
  replace hb9 := hb4.trans (hb9.mono hb4.size)
  go_wp2_with fail
  go_ret
  exact ⟨rfl, hb9⟩
theorem bounds_walk {k : Int} {p : Bool} {w : World} (hK : Kinds w) :
    Calls Tryd.prog 8 #[.int .i64 k, .bool p] w fun e w' => e = .returned (.bool true) ∧ Below w.heap.size w w' := by
  by_cases h : k < 0 ∨ 1 < k
  · have hW := Lib.hid (works_any hK)
    have hne : (k == 0) = false := by simp; omega
    rcases h with h | h <;> cases p <;>
    · go_enter Tryd.func8, Tryd.ntmps8
      go_wp2_with fail
      all_goals first | (exfalso; omega) | skip
      refine hW.out.mono ?_
      rintro e w9 ⟨rfl, hb9⟩
      go_wp2_with fail
      go_ret
      exact ⟨rfl, hb9⟩
  · have h2 : k = 0 ∨ k = 1 := by omega
    rcases h2 with rfl | rfl <;> cases p
    · exact bounds_a hK
    · exact bounds_b hK
    · exact bounds_c hK
    · exact bounds_d hK
end Go.Proofs.YtkdodmjhpkfhnaaDoor
