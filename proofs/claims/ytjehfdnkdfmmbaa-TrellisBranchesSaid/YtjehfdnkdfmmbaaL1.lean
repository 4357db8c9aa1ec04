/-
  The walk of TrellisSteps.
-/
import Derived.Test.YtjehfdnkdfmmbaaWk
namespace Go.Proofs.Ytjehfdnkdfmmbaa
open Go.RowKit

theorem eq_arr3_same (a b c : Int) (w : World) : (Op.equalIn 10000 25 (.agg #[.int .u8 a, .int .u8 b, .int .u8 c]) (.agg #[.int .u8 a, .int .u8 b, .int .u8 c])).run Try.prog w = .ok true w := by rw [eq_arr3]; simp
theorem valid_of {st : Int} {b : Bool} {w : World} (h : (decide (0 ≤ st) && decide (st < 8)) = b) : Calls Try.prog 12 #[.int .i64 st] w fun r w' => r = .returned (.bool b) ∧ w' = w := by
  rw [← h]; exact valid_any
set_option maxRecDepth 100000 in
set_option maxHeartbeats 8000000 in
theorem steps_no {st u : Int} {w : World} (h : (decide (0 ≤ st) && decide (st < 8)) = false) :
    Calls Try.prog 3 #[.int .i64 st, .int .i64 u] w fun e w' => e = .returned (.bool true) ∧ Below w.heap.size w w' := by
  have hS := Lib.hid (fun (v : World) => Step_no (st := st) (u := u) (w := v) (by rw [h]; rfl))
  have hT := Lib.hid (fun (v : World) => Tail_no (st := st) (w := v) h)
  rw [b3_eq] at hT
  have hV := Lib.hid (fun (v : World) => valid_of (w := v) h)
  have hK := Lib.hid (fun (v : World) => works_any (w := v))
  have q := fun u => eq_arr3_same 0 0 0 u
  clear h
  go_enter Try.func3, Try.ntmps3
  go_wp2_with fail
  refine (hS.out _).mono ?_
  rintro e w1 ⟨rfl, hb1⟩
  go_wp2_with fail
  refine (hT.out _).mono ?_
  rintro e w2 ⟨rfl, h2⟩
  have hb2 := hb1.trans (h2.mono hb1.size)
  have t1 := (Three.new w2 25 (.int .u8 0) (.int .u8 0) (.int .u8 0)).alloc (.cells #[.int .u8 0, .int .u8 0, .int .u8 0] 25)
  have t2 := Three.new (w2.alloc (.cells #[.int .u8 0, .int .u8 0, .int .u8 0] 25)) 25 (.int .u8 0) (.int .u8 0) (.int .u8 0)
  rw [World.size_alloc] at t2
  have hb3 := hb2.trans ((below_two (w := w2) (.cells #[.int .u8 0, .int .u8 0, .int .u8 0] 25) (.cells #[.int .u8 0, .int .u8 0, .int .u8 0] 25)).mono hb2.size)
  clear hb1 h2 hb2 hS hT
  go_wp2_with fail
  generalize (w2.alloc (.cells #[.int .u8 0, .int .u8 0, .int .u8 0] 25)).alloc (.cells #[.int .u8 0, .int .u8 0, .int .u8 0] 25) = w3 at *
  refine (hV.out _).mono ?_
  rintro e w4 ⟨rfl, he⟩
  obtain rfl := he.symm
  have x0 := t1.cell0
  have x1 := t1.cell1
  have x2 := t1.cell2
  have y0 := t2.cell0
  have y1 := t2.cell1
  have y2 := t2.cell2
  clear t1 t2 hV
  go_wp2_with fail
  refine (hK.out _).mono ?_
  rintro e w5 ⟨rfl, h5⟩
  have hb5 := hb3.trans (h5.mono hb3.size)
  clear hb3 h5 x0 x1 x2 y0 y1 y2 hK
  go_wp2_with fail
  go_ret
  exact ⟨rfl, hb5⟩
set_option maxRecDepth 100000 in
set_option maxHeartbeats 8000000 in
theorem steps_ok {s : Nat} {u : Int} {w : World} (hs : s < 8) :
    Calls Try.prog 3 #[.int .i64 (s : Int), .int .i64 u] w fun e w' => e = .returned (.bool true) ∧ Below w.heap.size w w' := by
  have h8 : (decide (0 ≤ (s : Int)) && decide ((s : Int) < 8)) = true := by simp; omega
  have hS := Lib.hid (fun (v : World) => Step_any (st := (s : Int)) (u := u) (w := v))
  have hT := Lib.hid (fun (v : World) => Tail_ok (w := v) hs)
  have hR := Lib.hid (fun (v : World) => refTail_any (w := v) hs)
  have hV := Lib.hid (fun (v : World) => valid_of (w := v) h8)
  have hK := Lib.hid (fun (v : World) => works_any (w := v))
  obtain ⟨u0, u1, u2, hU⟩ : ∃ a b c, tailU s = [a, b, c] := ⟨_, _, _, rfl⟩
  obtain ⟨z0, z1, z2, hZ⟩ : ∃ a b c, tailZ s = [a, b, c] := ⟨_, _, _, rfl⟩
  rw [hU, hZ, b3_eq, b3_eq] at hT hR
  have qU := fun w => eq_arr3_same (u0 : Int) (u1 : Int) (u2 : Int) w
  have qZ := fun w => eq_arr3_same (z0 : Int) (z1 : Int) (z2 : Int) w
  have hcase : (¬ (decide (0 ≤ u) && decide (u < 2)) = true ∧ stepS (s : Int) u = (0, 0, 2)) ∨ ∃ v : Nat, u = (v : Int) ∧ v < 2 := by
    by_cases h2 : (decide (0 ≤ u) && decide (u < 2)) = true
    · right
      simp at h2
      obtain ⟨v, rfl⟩ := Int.eq_ofNat_of_zero_le h2.1
      exact ⟨v, rfl, by omega⟩
    · left
      refine ⟨h2, ?_⟩
      unfold stepS
      rw [if_neg (by rw [h8, Bool.true_and]; exact h2)]
  have hRS := Lib.hid (fun (v : World) (x : Nat) (hx : x < 2) => refStep_any (w := v) hs hx)
  have hSO := Lib.hid (fun (x : Nat) (hx : x < 2) => stepS_ok (s := s) (u := x) hs hx)
  clear hU hZ h8 hs
  go_enter Try.func3, Try.ntmps3
  go_wp2_with fail
  refine (hS.out _).mono ?_
  rintro e w1 ⟨rfl, hb1⟩
  go_wp2_with fail
  refine (hT.out _).mono ?_
  rintro e w2 ⟨rfl, h2⟩
  have hb2 := hb1.trans (h2.mono hb1.size)
  have t1 := (Three.new w2 25 (.int .u8 (u0 : Int)) (.int .u8 (u1 : Int)) (.int .u8 (u2 : Int))).alloc (.cells #[.int .u8 (z0 : Int), .int .u8 (z1 : Int), .int .u8 (z2 : Int)] 25)
  have t2 := Three.new (w2.alloc (.cells #[.int .u8 (u0 : Int), .int .u8 (u1 : Int), .int .u8 (u2 : Int)] 25)) 25 (.int .u8 (z0 : Int)) (.int .u8 (z1 : Int)) (.int .u8 (z2 : Int))
  rw [World.size_alloc] at t2
  have hb3 := hb2.trans ((below_two (w := w2) (.cells #[.int .u8 (u0 : Int), .int .u8 (u1 : Int), .int .u8 (u2 : Int)] 25) (.cells #[.int .u8 (z0 : Int), .int .u8 (z1 : Int), .int .u8 (z2 : Int)] 25)).mono hb2.size)
  clear hb1 h2 hb2 hS hT
  go_wp2_with fail
  generalize (w2.alloc (.cells #[.int .u8 (u0 : Int), .int .u8 (u1 : Int), .int .u8 (u2 : Int)] 25)).alloc (.cells #[.int .u8 (z0 : Int), .int .u8 (z1 : Int), .int .u8 (z2 : Int)] 25) = w3 at *
  refine (hV.out _).mono ?_
  rintro e w4 ⟨rfl, he⟩
  obtain rfl := he.symm
  clear hV
  go_wp2_with fail
  refine (hR.out _).mono ?_
  rintro e w5 ⟨rfl, h5⟩
  have t1 := t1.block (h5.block _ t1.lt)
  have t2 := t2.block (h5.block _ t2.lt)
  have hb5 := hb3.trans (h5.mono hb3.size)
  have s1 := (Three.new w5 25 (.int .u8 (u0 : Int)) (.int .u8 (u1 : Int)) (.int .u8 (u2 : Int))).alloc (.cells #[.int .u8 (z0 : Int), .int .u8 (z1 : Int), .int .u8 (z2 : Int)] 25)
  have s2 := Three.new (w5.alloc (.cells #[.int .u8 (u0 : Int), .int .u8 (u1 : Int), .int .u8 (u2 : Int)] 25)) 25 (.int .u8 (z0 : Int)) (.int .u8 (z1 : Int)) (.int .u8 (z2 : Int))
  rw [World.size_alloc] at s2
  have t1 := (t1.alloc (.cells #[.int .u8 (u0 : Int), .int .u8 (u1 : Int), .int .u8 (u2 : Int)] 25)).alloc (.cells #[.int .u8 (z0 : Int), .int .u8 (z1 : Int), .int .u8 (z2 : Int)] 25)
  have t2 := (t2.alloc (.cells #[.int .u8 (u0 : Int), .int .u8 (u1 : Int), .int .u8 (u2 : Int)] 25)).alloc (.cells #[.int .u8 (z0 : Int), .int .u8 (z1 : Int), .int .u8 (z2 : Int)] 25)
  have hb6 := hb5.trans ((below_two (w := w5) (.cells #[.int .u8 (u0 : Int), .int .u8 (u1 : Int), .int .u8 (u2 : Int)] 25) (.cells #[.int .u8 (z0 : Int), .int .u8 (z1 : Int), .int .u8 (z2 : Int)] 25)).mono hb5.size)
  have HN := Lib.hid (fun (v : World) => num_any (k := 0) (w := v))
  clear hb3 h5 hb5 hR
  go_wp2_with fail
  generalize (w5.alloc (.cells #[.int .u8 (u0 : Int), .int .u8 (u1 : Int), .int .u8 (u2 : Int)] 25)).alloc (.cells #[.int .u8 (z0 : Int), .int .u8 (z1 : Int), .int .u8 (z2 : Int)] 25) = w6 at *
  refine (HN.out _).mono ?_
  rintro e w7 ⟨rfl, he⟩
  obtain rfl := he.symm
  have x0 := t1.cell0
  have x1 := t1.cell1
  have x2 := t1.cell2
  have y0 := t2.cell0
  have y1 := t2.cell1
  have y2 := t2.cell2
  have X0 := s1.cell0
  have X1 := s1.cell1
  have X2 := s1.cell2
  have Y0 := s2.cell0
  have Y1 := s2.cell1
  have Y2 := s2.cell2
  clear t1 t2 s1 s2 he
  rcases hcase with ⟨hu, hst⟩ | ⟨v, rfl, hv⟩
  · rw [hst]
    have hu' : u < 0 ∨ (0 ≤ u ∧ 1 < u) := by simp at hu; omega
    clear hu hst hRS hSO
    rcases hu' with hu' | ⟨hu1, hu2⟩
    · go_wp2_with fail
      refine (hK.out _).mono ?_
      rintro e w8 ⟨rfl, h8⟩
      have hb8 := hb6.trans (h8.mono hb6.size)
      clear h8 hb6 x0 x1 x2 y0 y1 y2 X0 X1 X2 Y0 Y1 Y2 hK
      go_wp2_with fail
      go_ret
      exact ⟨rfl, hb8⟩
    · have hu3 : ¬ u < 0 := by omega
      go_wp2_with fail
      refine (hK.out _).mono ?_
      rintro e w8 ⟨rfl, h8⟩
      have hb8 := hb6.trans (h8.mono hb6.size)
      clear h8 hb6 x0 x1 x2 y0 y1 y2 X0 X1 X2 Y0 Y1 Y2 hK
      go_wp2_with fail
      go_ret
      exact ⟨rfl, hb8⟩
  · rw [hSO.out v hv]
    have hR := Lib.hid (fun w => hRS.out w v hv)
    have hv1 : ¬ (1 : Int) < (v : Int) := by omega
    have hv0 : ¬ (v : Int) < 0 := by omega
    clear hRS hSO
    generalize nextS s v = nx at *
    generalize parS7 s v = p at *
    go_wp2_with fail
    refine (hR.out _).mono ?_
    rintro e w8 ⟨rfl, he⟩
    obtain rfl := he.symm
    clear hR x0 x1 x2 y0 y1 y2 X0 X1 X2 Y0 Y1 Y2 he
    go_wp2_with fail
    refine (HN.out _).mono ?_
    rintro e w8 ⟨rfl, he⟩
    obtain rfl := he.symm
    go_wp2_with fail
    refine (hK.out _).mono ?_
    rintro e w9 ⟨rfl, h8⟩
    have hb8 := hb6.trans (h8.mono hb6.size)
    clear h8 hb6 hK
    go_wp2_with fail
    go_ret
    exact ⟨rfl, hb8⟩
theorem steps_walk {st u : Int} {w : World} :
    Calls Try.prog 3 #[.int .i64 st, .int .i64 u] w fun e w' => e = .returned (.bool true) ∧ Below w.heap.size w w' := by
  by_cases h : (decide (0 ≤ st) && decide (st < 8)) = true
  · simp at h
    obtain ⟨s, rfl⟩ := Int.eq_ofNat_of_zero_le h.1
    exact steps_ok (by omega)
  · exact steps_no (Bool.eq_false_iff.2 h)
end Go.Proofs.Ytjehfdnkdfmmbaa
