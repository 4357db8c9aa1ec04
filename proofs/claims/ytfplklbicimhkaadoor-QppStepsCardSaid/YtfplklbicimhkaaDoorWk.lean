/-
  The law's params, at, works.
-/
import Derived.Test.YtfplklbicimhkaaDoorFi
namespace Go.Proofs.YtfplklbicimhkaaDoor
open Go.RowKit

theorem params_true {k a b : Int} {w : World} (hK : Kinds w) (h : parS k = (a, b, 0)) :
    Calls Tryd.prog 33 #[.int .i64 k, .int .i64 a, .int .i64 b] w fun e w' => e = .returned (.bool true) ∧ Below w.heap.size w w' := by
  have hP := Lib.hid (Params_any (k := k) hK)
  rw [h] at hP
  clear h
  go_enter Tryd.func33, Tryd.ntmps33
  go_wp2_with fail
  refine hP.out.mono ?_
  rintro e w1 ⟨rfl, hb1⟩
  clear hP
  go_wp2_with (go_at_call 13; refine num_any.mono ?_; rintro e w2 ⟨rfl, he⟩; obtain rfl := he.symm)
  go_ret
  exact ⟨rfl, hb1⟩
theorem at_true {k i x : Nat} {w : World} (hK : Kinds w) (hs : IsSize k) (hi : i < k) (h : piK k i = x) :
    Calls Tryd.prog 34 #[.int .i64 (k : Int), .int .i64 (i : Int), .int .i64 (x : Int)] w fun e w' => e = .returned (.bool true) ∧ Below w.heap.size w w' := by
  have hP := Lib.hid (At_size hK hs hi)
  rw [h] at hP
  clear h
  go_enter Tryd.func34, Tryd.ntmps34
  go_wp2_with fail
  refine hP.out.mono ?_
  rintro e w1 ⟨rfl, hb1⟩
  clear hP
  go_wp2_with (go_at_call 13; refine num_any.mono ?_; rintro e w2 ⟨rfl, he⟩; obtain rfl := he.symm)
  go_ret
  exact ⟨rfl, hb1⟩
theorem s40 : IsSize 40 := by decide
theorem par40 : parS 40 = (3, 10, 0) := by
  have := parS_size s40
  rw [show f1N 40 = 3 by decide +kernel, show f2N 40 = 10 by decide +kernel] at this
  exact this
theorem par48 : parS 48 = (5, 6, 0) := by
  have := parS_size (k := 48) (by decide)
  rw [show f1N 48 = 5 by decide +kernel, show f2N 48 = 6 by decide +kernel] at this
  exact this
theorem par6144 : parS 6144 = (5, 6, 0) := by
  have := parS_size (k := 6144) (by decide)
  rw [show f1N 6144 = 5 by decide +kernel, show f2N 6144 = 6 by decide +kernel] at this
  exact this
theorem par41 : parS 41 = (0, 0, 2) := parS_no (by decide +kernel)
theorem ord40 : (ordI 40 40)[0]?.getD 0 = 0 ∧ (ordI 40 40)[1]?.getD 0 = 13 ∧ (ordI 40 40)[2]?.getD 0 = 6 := by decide +kernel
theorem inv40 : (invI 40 40)[13]?.getD 0 = 1 := by decide +kernel
theorem free40 : freeS 40 4 = true ∧ freeS 40 3 = false := by decide +kernel
set_option maxRecDepth 100000 in
set_option maxHeartbeats 8000000 in
theorem works_any {w : World} (hK : Kinds w) :
    Calls Tryd.prog 14 #[] w fun e w' => e = .returned (.bool true) ∧ Below w.heap.size w w' := by
  have hP := Lib.hid (fun (u : World) (h : Below w.heap.size w u) => Params_any (k := 41) (hK.step h))
  rw [par41] at hP
  have hA := Lib.hid (fun (u : World) (h : Below w.heap.size w u) => At_range (k := 40) (i := 40) (hK.step h) s40 (.inr (by decide)))
  have hO := Lib.hid (fun (u : World) (h : Below w.heap.size w u) => Order_any (k := 40) (hK.step h))
  have hV := Lib.hid (fun (u : World) (h : Below w.heap.size w u) => Inverse_any (k := 40) (hK.step h))
  rw [show orderS 40 = (ordI 40 40, 0) from orderS_size s40] at hO
  rw [show invS 40 = (invI 40 40, 0) from invS_size s40] at hV
  have hF4 := Lib.hid (fun (u : World) (h : Below w.heap.size w u) => Free_any (k := 40) (v := 4) (hK.step h))
  have hF3 := Lib.hid (fun (u : World) (h : Below w.heap.size w u) => Free_any (k := 40) (v := 3) (hK.step h))
  rw [free40.1] at hF4
  rw [free40.2] at hF3
  have p1 := Lib.hid (fun (u : World) (h : Below w.heap.size w u) => params_true (hK.step h) par40)
  have p2 := Lib.hid (fun (u : World) (h : Below w.heap.size w u) => params_true (hK.step h) par48)
  have p3 := Lib.hid (fun (u : World) (h : Below w.heap.size w u) => params_true (hK.step h) par6144)
  have q1 := Lib.hid (fun (u : World) (h : Below w.heap.size w u) => at_true (k := 40) (i := 1) (x := 13) (hK.step h) s40 (by decide) (by decide +kernel))
  have q2 := Lib.hid (fun (u : World) (h : Below w.heap.size w u) => at_true (k := 40) (i := 2) (x := 6) (hK.step h) s40 (by decide) (by decide +kernel))
  have q3 := Lib.hid (fun (u : World) (h : Below w.heap.size w u) => at_true (k := 40) (i := 39) (x := 7) (hK.step h) s40 (by decide) (by decide +kernel))
  have hol := Lib.hid (ordI_length 40 40)
  have hvl : Hid ((invI 40 40).length = 40) := Lib.hid (putL_length _)
  have ho40 := Lib.hid ord40
  have hi40 := Lib.hid inv40
  go_enter Tryd.func14, Tryd.ntmps14
  go_wp2_with fail
  refine (hP.out _ (Below.refl _ _)).mono ?_
  rintro e w1 ⟨rfl, hb1⟩
  go_wp2_with fail
  refine (hA.out _ hb1).mono ?_
  rintro e w2 ⟨rfl, h2⟩
  have hb2 := hb1.trans (h2.mono hb1.size)
  clear h2 hb1
  go_wp2_with fail
  refine (hO.out _ hb2).mono ?_
  rintro e w3 ⟨A3, c3, rfl, ho3, h3⟩
  have hb3 := hb2.trans (h3.mono hb2.size)
  have R3 := Rd.of_own ho3
  rw [hol.out] at R3 ⊢
  clear h3 hb2 ho3
  go_wp2_with fail
  refine (hV.out _ hb3).mono ?_
  rintro e w4 ⟨A4, c4, rfl, ho4, h4⟩
  have hb4 := hb3.trans (h4.mono hb3.size)
  have R4 := Rd.of_own ho4
  have R34 := R3.step h4
  rw [hvl.out] at R4 ⊢
  clear h4 hb3 ho4 R3
  go_wp2_with fail
  refine (hF4.out _ hb4).mono ?_
  rintro e w5 ⟨rfl, h5⟩
  have hb5 := hb4.trans (h5.mono hb4.size)
  have R35 := R34.step h5
  have R45 := R4.step h5
  clear h5 hb4 R34 R4
  go_wp2_with fail
  refine (hF3.out _ hb5).mono ?_
  rintro e w6 ⟨rfl, h6⟩
  have hb6 := hb5.trans (h6.mono hb5.size)
  have R36 := R35.step h6
  have R46 := R45.step h6
  clear h6 hb5 R35 R45
  go_wp2_with fail
  refine (p1.out _ hb6).mono ?_
  rintro e w7 ⟨rfl, h7⟩
  have hb7 := hb6.trans (h7.mono hb6.size)
  have R37 := R36.step h7
  have R47 := R46.step h7
  clear h7 hb6 R36 R46
  go_wp2_with fail
  refine (p2.out _ hb7).mono ?_
  rintro e w8 ⟨rfl, h8⟩
  have hb8 := hb7.trans (h8.mono hb7.size)
  have R38 := R37.step h8
  have R48 := R47.step h8
  clear h8 hb7 R37 R47
  go_wp2_with fail
  refine (p3.out _ hb8).mono ?_
  rintro e w9 ⟨rfl, h9⟩
  have hb9 := hb8.trans (h9.mono hb8.size)
  have R39 := R38.step h9
  have R49 := R48.step h9
  clear h9 hb8 R38 R48
  go_wp2_with (go_at_call 13; refine num_any.mono ?_; rintro e wn ⟨rfl, he⟩; obtain rfl := he.symm)
  refine (q1.out _ hb9).mono ?_
  rintro e w10 ⟨rfl, h10⟩
  have hb10 := hb9.trans (h10.mono hb9.size)
  have R310 := R39.step h10
  have R410 := R49.step h10
  clear h10 hb9 R39 R49
  go_wp2_with fail
  refine (q2.out _ hb10).mono ?_
  rintro e w11 ⟨rfl, h11⟩
  have hb11 := hb10.trans (h11.mono hb10.size)
  have R311 := R310.step h11
  have R411 := R410.step h11
  clear h11 hb10 R310 R410
  go_wp2_with fail
  refine (q3.out _ hb11).mono ?_
  rintro e w12 ⟨rfl, h12⟩
  have hb12 := hb11.trans (h12.mono hb11.size)
  have R312 := R311.step h12
  have R412 := R411.step h12
  clear h12 hb11 R311 R411
  obtain ⟨b3, off3, rfl, _, x0⟩ := R312.cells 0 (by decide)
  obtain ⟨_, _, e1, _, x1⟩ := R312.cells 1 (by decide)
  injection e1 with e1
  injection e1 with e1 e2
  subst e1 e2
  obtain ⟨_, _, e1, _, x2⟩ := R312.cells 2 (by decide)
  injection e1 with e1
  injection e1 with e1 e2
  subst e1 e2
  obtain ⟨b4, off4, rfl, _, x13⟩ := R412.cells 13 (by decide)
  rw [ho40.out.1] at x0
  rw [ho40.out.2.1] at x1
  rw [ho40.out.2.2] at x2
  rw [hi40.out] at x13
  rw [Nat.add_zero] at x0
  clear R312 R412 hP hA hO hV hF4 hF3 p1 p2 p3 q1 q2 q3
  go_wp2_with (go_at_call 13; refine num_any.mono ?_; rintro e wn ⟨rfl, he⟩; obtain rfl := he.symm)
  go_ret
  exact ⟨rfl, hb12⟩
end Go.Proofs.YtfplklbicimhkaaDoor
