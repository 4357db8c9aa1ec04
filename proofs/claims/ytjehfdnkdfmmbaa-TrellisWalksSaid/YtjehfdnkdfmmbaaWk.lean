/-
  The law's works.
-/
import Derived.Test.YtjehfdnkdfmmbaaT8
import Derived.Test.YtjehfdnkdfmmbaaTb
import Derived.Test.YtjehfdnkdfmmbaaEq
import Derived.Test.YtjehfdnkdfmmbaaR1
namespace Go.Proofs.Ytjehfdnkdfmmbaa
open Go.RowKit

theorem ex_step1 : stepS 0 1 = (4, 1, 0) := by decide +kernel
theorem ex_step2 : stepS 4 0 = (2, 1, 0) := by decide +kernel
theorem ex_step3 : stepS 8 0 = (0, 0, 2) := by decide +kernel
theorem ex_enc : encR [1, 0, 0, 0] = [1, 1, 1, 1] ∧ encN [1, 0, 0, 0] = 6 ∧ encE [1, 0, 0, 0] = 0 := by decide +kernel
theorem ex_word : wordS [1] = ([1, 1, 0, 1, 1, 1, 0, 1], 0) := by decide +kernel
theorem ex_tailA : tailA 4 = #[.int .u8 0, .int .u8 1, .int .u8 1] := rfl
theorem ex_tailB : tailB 4 = #[.int .u8 1, .int .u8 0, .int .u8 1] := rfl
theorem ex_prev : prvA 2 = #[.int .i64 4, .int .i64 0, .int .i64 1, .int .i64 2, .int .i64 5, .int .i64 1, .int .i64 0, .int .i64 2] := rfl
theorem byte_small {xs : List Int} (h : xs.all (fun x => decide (0 ≤ x ∧ x ≤ 255)) = true) : Byte xs := Byte.of_mem (fun x hx => by
  rw [List.all_eq_true] at h
  simpa using h x hx)
set_option maxRecDepth 100000 in
set_option maxHeartbeats 8000000 in
theorem works_any {w : World} :
    Calls Try.prog 13 #[] w fun e w' => e = .returned (.bool true) ∧ Below w.heap.size w w' := by
  have s1 := Lib.hid (fun (u : World) => Step_any (st := 0) (u := 1) (w := u))
  have s2 := Lib.hid (fun (u : World) => Step_any (st := 4) (u := 0) (w := u))
  have s3 := Lib.hid (fun (u : World) => Step_any (st := 8) (u := 0) (w := u))
  rw [ex_step1] at s1
  rw [ex_step2] at s2
  rw [ex_step3] at s3
  have hE := Lib.hid (fun (u : World) => Encode_any (c := 4) (L := 4) (w := u.alloc (.cells #[.int .u8 1, .int .u8 0, .int .u8 0, .int .u8 0] 5)) ((rd_lit u [1, 0, 0, 0] 5).more (by simp)) (byte_small (by decide)) (by decide))
  rw [ex_enc.1, ex_enc.2.1, ex_enc.2.2] at hE
  have hW := Lib.hid (fun (u : World) => Word_any (c := 1) (n := 1) (w := u.alloc (.cells #[.int .u8 1] 5)) ((rd_lit u [1] 5).more (by simp)) (byte_small (by decide)) (by decide))
  rw [ex_word] at hW
  have hT := Lib.hid (fun (u : World) => Tail_any (st := 4) (w := u))
  rw [ex_tailA, ex_tailB, show tailE 4 = 0 from rfl] at hT
  have hP := Lib.hid (fun (u : World) => Previous_any (st := 2) (w := u))
  rw [ex_prev, show prvE 2 = 0 from rfl] at hP
  go_enter Try.func13, Try.ntmps13
  go_wp2_with fail
  refine (s1.out _).mono ?_
  rintro e w1 ⟨rfl, hb1⟩
  go_wp2_with fail
  refine (s2.out _).mono ?_
  rintro e w2 ⟨rfl, h2⟩
  have hb2 := hb1.trans (h2.mono hb1.size)
  clear h2 hb1
  go_wp2_with fail
  refine (s3.out _).mono ?_
  rintro e w3 ⟨rfl, h3⟩
  have hb3 := hb2.trans (h3.mono hb2.size)
  clear h3 hb2 s1 s2 s3
  go_wp2_with fail
  refine (hE.out _).mono ?_
  rintro e w4 ⟨A4, c4, rfl, hO4, h4⟩
  have hb4 := (hb3.alloc hb3.size (.cells #[.int .u8 1, .int .u8 0, .int .u8 0, .int .u8 0] 5)).trans (h4.mono (by have := hb3.size; simp; omega))
  have R4 := Rd.of_own hO4
  clear h4 hb3 hO4 hE
  go_wp2_with fail
  refine (hT.out _).mono ?_
  rintro e w5 ⟨rfl, h5⟩
  have hb5 := hb4.trans (h5.mono hb4.size)
  have R5 := R4.step h5
  clear h5 hb4 R4 hT
  have t1 := (Three.new w5 25 (.int .u8 0) (.int .u8 1) (.int .u8 1)).alloc (.cells #[.int .u8 1, .int .u8 0, .int .u8 1] 25)
  have t2 := Three.new (w5.alloc (.cells #[.int .u8 0, .int .u8 1, .int .u8 1] 25)) 25 (.int .u8 1) (.int .u8 0) (.int .u8 1)
  rw [World.size_alloc] at t2
  have hb6 := hb5.trans ((below_two (w := w5) (.cells #[.int .u8 0, .int .u8 1, .int .u8 1] 25) (.cells #[.int .u8 1, .int .u8 0, .int .u8 1] 25)).mono hb5.size)
  have R6 := R5.step (below_two (w := w5) (.cells #[.int .u8 0, .int .u8 1, .int .u8 1] 25) (.cells #[.int .u8 1, .int .u8 0, .int .u8 1] 25))
  have t1' := t1.alloc (.cells #[.int .u8 1] 5)
  have t2' := t2.alloc (.cells #[.int .u8 1] 5)
  have hb7 := hb6.alloc hb6.size (.cells #[.int .u8 1] 5)
  have R7 := R6.step ((Below.refl _ _).alloc (Nat.le_refl _) (.cells #[.int .u8 1] 5))
  have HW7 := hW.out ((w5.alloc (.cells #[.int .u8 0, .int .u8 1, .int .u8 1] 25)).alloc (.cells #[.int .u8 1, .int .u8 0, .int .u8 1] 25))
  rw [World.size_alloc, World.size_alloc] at HW7
  clear t1 t2 hb5 hb6 R5 R6
  go_wp2_with fail
  generalize ((w5.alloc (.cells #[.int .u8 0, .int .u8 1, .int .u8 1] 25)).alloc (.cells #[.int .u8 1, .int .u8 0, .int .u8 1] 25)).alloc (.cells #[.int .u8 1] 5) = w7 at *
  refine HW7.mono ?_
  rintro e w8 ⟨A8, c8, rfl, hO8, h8⟩
  have S1 := t1'.block (h8.block _ t1'.lt)
  have S2 := t2'.block (h8.block _ t2'.lt)
  have hb8 := hb7.trans (h8.mono hb7.size)
  have R8 := R7.step h8
  have Q8 := Rd.of_own hO8
  clear t1' t2' hb7 h8 hO8 R7 hW HW7
  go_wp2_with fail
  refine (hP.out _).mono ?_
  rintro e w9 ⟨rfl, h9⟩
  have S1 := S1.block (h9.block _ S1.lt)
  have S2 := S2.block (h9.block _ S2.lt)
  have hb9 := hb8.trans (h9.mono hb8.size)
  have R9 := R8.step h9
  have Q9 := Q8.step h9
  clear hb8 h9 R8 Q8 hP
  have ha := (Below.refl w9.heap.size w9).alloc (Nat.le_refl _) (.cells #[.int .i64 4, .int .i64 0, .int .i64 1, .int .i64 2, .int .i64 5, .int .i64 1, .int .i64 0, .int .i64 2] 51)
  have P1 := World.alloc_heap_new w9 (.cells #[.int .i64 4, .int .i64 0, .int .i64 1, .int .i64 2, .int .i64 5, .int .i64 1, .int .i64 0, .int .i64 2] 51)
  have hb10 := hb9.trans (ha.mono hb9.size)
  have R10 := R9.step ha
  have Q10 := Q9.step ha
  have S1 := S1.block (ha.block _ S1.lt)
  have S2 := S2.block (ha.block _ S2.lt)
  clear hb9 ha R9 Q9
  go_wp2_with (go_at_call 15; refine num_any.mono ?_; rintro e wn ⟨rfl, he⟩; obtain rfl := he.symm)
  have hs10 : (w9.alloc (.cells #[.int .i64 4, .int .i64 0, .int .i64 1, .int .i64 2, .int .i64 5, .int .i64 1, .int .i64 0, .int .i64 2] 51)).heap.size = w9.heap.size + 1 := by simp
  generalize w9.alloc (.cells #[.int .i64 4, .int .i64 0, .int .i64 1, .int .i64 2, .int .i64 5, .int .i64 1, .int .i64 0, .int .i64 2] 51) = w10 at *
  have L1 := rd_lit w10 [1, 1, 1, 1] 5
  have R11 := R10.alloc (Nat.le_refl _) (.cells #[.int .u8 1, .int .u8 1, .int .u8 1, .int .u8 1] 5)
  have C1 := same_any (c := c4) (c' := 4) R11 L1 (byte_small (by decide)) (byte_small (by decide))
  rw [show decide (([1, 1, 1, 1] : List Int) = [1, 1, 1, 1]) = true from by decide, hs10] at C1
  have P2 := (Below.heap_alloc w10 (.cells #[.int .u8 1, .int .u8 1, .int .u8 1, .int .u8 1] 5) _ (Array.getElem?_eq_some_iff.1 P1).1).trans P1
  have S1 := S1.alloc (.cells #[.int .u8 1, .int .u8 1, .int .u8 1, .int .u8 1] 5)
  have S2 := S2.alloc (.cells #[.int .u8 1, .int .u8 1, .int .u8 1, .int .u8 1] 5)
  have Q11 := (Q10.alloc (Nat.le_refl _) (.cells #[.int .u8 1, .int .u8 1, .int .u8 1, .int .u8 1] 5)).more (show w10.heap.size ≤ (w10.alloc (.cells #[.int .u8 1, .int .u8 1, .int .u8 1, .int .u8 1] 5)).heap.size by simp)
  have hb11 := hb10.alloc hb10.size (.cells #[.int .u8 1, .int .u8 1, .int .u8 1, .int .u8 1] 5)
  have hs11 : (w10.alloc (.cells #[.int .u8 1, .int .u8 1, .int .u8 1, .int .u8 1] 5)).heap.size = w9.heap.size + 1 + 1 := by simp [hs10]
  clear L1 R10 R11 P1 Q10 hb10 hs10
  refine C1.mono ?_
  generalize w10.alloc (.cells #[.int .u8 1, .int .u8 1, .int .u8 1, .int .u8 1] 5) = w11 at *
  rintro e w12 ⟨rfl, he⟩
  obtain rfl := he.symm
  have x0 := S1.cell0
  have x1 := S1.cell1
  have x2 := S1.cell2
  have y0 := S2.cell0
  have y1 := S2.cell1
  have y2 := S2.cell2
  have q1 : ∀ u, (Op.equalIn 10000 25 (.agg #[.int .u8 0, .int .u8 1, .int .u8 1]) (.agg #[.int .u8 0, .int .u8 1, .int .u8 1])).run Try.prog u = .ok true u := fun u => eq_arr3 0 1 1 0 1 1 u
  have q2 : ∀ u, (Op.equalIn 10000 25 (.agg #[.int .u8 1, .int .u8 0, .int .u8 1]) (.agg #[.int .u8 1, .int .u8 0, .int .u8 1])).run Try.prog u = .ok true u := fun u => eq_arr3 1 0 1 1 0 1 u
  have q3 : ∀ u, (Op.equalIn 10000 51 (.agg #[.int .i64 4, .int .i64 0, .int .i64 1, .int .i64 2, .int .i64 5, .int .i64 1, .int .i64 0, .int .i64 2]) (.agg #[.int .i64 4, .int .i64 0, .int .i64 1, .int .i64 2, .int .i64 5, .int .i64 1, .int .i64 0, .int .i64 2])).run Try.prog u = .ok true u := fun u => eq_two 4 0 1 2 5 1 0 2 4 0 1 2 5 1 0 2 u
  have L2 := rd_lit w11 [1, 1, 0, 1, 1, 1, 0, 1] 5
  have Q12 := Q11.alloc (Nat.le_refl _) (.cells #[.int .u8 1, .int .u8 1, .int .u8 0, .int .u8 1, .int .u8 1, .int .u8 1, .int .u8 0, .int .u8 1] 5)
  have C2 := same_any (c := c8) (c' := 8) Q12 L2 (byte_small (by decide)) (byte_small (by decide))
  rw [show decide (([1, 1, 0, 1, 1, 1, 0, 1] : List Int) = [1, 1, 0, 1, 1, 1, 0, 1]) = true from by decide, hs11] at C2
  have P3 := (Below.heap_alloc w11 (.cells #[.int .u8 1, .int .u8 1, .int .u8 0, .int .u8 1, .int .u8 1, .int .u8 1, .int .u8 0, .int .u8 1] 5) _ (Array.getElem?_eq_some_iff.1 P2).1).trans P2
  have hb12 := hb11.alloc hb11.size (.cells #[.int .u8 1, .int .u8 1, .int .u8 0, .int .u8 1, .int .u8 1, .int .u8 1, .int .u8 0, .int .u8 1] 5)
  have H12 := Lib.hid (And.intro P3 hb12)
  have HC2 := Lib.hid C2
  have hs11' := hs11
  clear L2 Q11 Q12 P2 P3 hb11 hb12 S1 S2 C1 C2 he hs11
  go_wp2_with fail
  refine HC2.out.mono ?_
  generalize w11.alloc (.cells #[.int .u8 1, .int .u8 1, .int .u8 0, .int .u8 1, .int .u8 1, .int .u8 1, .int .u8 0, .int .u8 1] 5) = w13 at *
  rintro e w14 ⟨rfl, he⟩
  obtain rfl := he.symm
  have hc : ∀ j v, (#[Value.int .i64 4, .int .i64 0, .int .i64 1, .int .i64 2, .int .i64 5, .int .i64 1, .int .i64 0, .int .i64 2] : Array Value)[j]? = some v → w13.cell? ⟨w9.heap.size, j, none⟩ = some v := fun j v hv => by
    rw [cell_of_row _ _ j _ _ _ H12.out.1]; exact hv
  have k0 := hc 0 _ rfl
  have k1 := hc 1 _ rfl
  have k2 := hc 2 _ rfl
  have k3 := hc 3 _ rfl
  have k4 := hc 4 _ rfl
  have k5 := hc 5 _ rfl
  have k6 := hc 6 _ rfl
  have k7 := hc 7 _ rfl
  have HB := Lib.hid H12.out.2
  clear H12 HC2 hc x0 x1 x2 y0 y1 y2 hs11'
  go_wp2_with fail
  go_ret
  exact ⟨rfl, HB.out⟩
end Go.Proofs.Ytjehfdnkdfmmbaa
