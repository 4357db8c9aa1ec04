/-
  The laws QppParams's, QppOrders's, QppFree's walks.
-/
import Derived.Test.YtfplklbicimhkaaDoorWk
namespace Go.Proofs.YtfplklbicimhkaaDoor
open Go.RowKit

set_option maxRecDepth 100000 in
set_option maxHeartbeats 4000000 in
theorem params_walk {k i : Int} {w : World} (hK : Kinds w) :
    Calls Tryd.prog 3 #[.int .i64 k, .int .i64 i] w fun e w' => e = .returned (.bool true) ∧ Below w.heap.size w w' := by
  have hW := Lib.hid (fun (u : World) (h : Below w.heap.size w u) => works_any (hK.step h))
  have hP := Lib.hid (Params_any (k := k) hK)
  have hR := Lib.hid (fun (u : World) => refParams_any (k := k) (w := u))
  by_cases h : isB k = true
  · obtain ⟨m, rfl, hs⟩ := isB_ex h
    rw [parS_size hs] at hP hR
    by_cases hi : i < 0 ∨ (m : Int) ≤ i
    · have hA := Lib.hid (fun (u : World) (h : Below w.heap.size w u) => At_range (i := i) (hK.step h) hs hi)
      have HS := Lib.hid hs
      generalize f1N m = f1 at *
      generalize f2N m = f2 at *
      clear h hs
      rcases hi with hi | hi
      · have d1 : decide (i < 0) = true := by simp; omega
        go_enter Tryd.func3, Tryd.ntmps3
        go_wp2_with fail
        refine hP.out.mono ?_
        rintro e w1 ⟨rfl, hb1⟩
        go_wp2_with fail
        refine (hR.out _).mono ?_
        rintro e w2 ⟨rfl, j, rfl⟩
        have hb2 := below_drewN hb1 j
        go_wp2_with fail
        refine (hA.out _ hb2).mono ?_
        rintro e w3 ⟨rfl, h3⟩
        have hb3 := hb2.trans (h3.mono hb2.size)
        clear h3 hb1 hb2
        go_wp2_with (go_at_call 13; refine num_any.mono ?_; rintro e wn ⟨rfl, he⟩; obtain rfl := he.symm)
        refine (hW.out _ hb3).mono ?_
        rintro e w4 ⟨rfl, h4⟩
        have hb4 := hb3.trans (h4.mono hb3.size)
        go_wp2_with fail
        go_ret
        exact ⟨rfl, hb4⟩
      · have d1 : decide (i < 0) = false := by simp; omega
        have d2 : decide ((m : Int) ≤ i) = true := by simp; omega
        go_enter Tryd.func3, Tryd.ntmps3
        go_wp2_with fail
        refine hP.out.mono ?_
        rintro e w1 ⟨rfl, hb1⟩
        go_wp2_with fail
        refine (hR.out _).mono ?_
        rintro e w2 ⟨rfl, j, rfl⟩
        have hb2 := below_drewN hb1 j
        go_wp2_with fail
        refine (hA.out _ hb2).mono ?_
        rintro e w3 ⟨rfl, h3⟩
        have hb3 := hb2.trans (h3.mono hb2.size)
        clear h3 hb1 hb2
        go_wp2_with (go_at_call 13; refine num_any.mono ?_; rintro e wn ⟨rfl, he⟩; obtain rfl := he.symm)
        refine (hW.out _ hb3).mono ?_
        rintro e w4 ⟨rfl, h4⟩
        have hb4 := hb3.trans (h4.mono hb3.size)
        go_wp2_with fail
        go_ret
        exact ⟨rfl, hb4⟩
    · obtain ⟨x, rfl⟩ : ∃ x : Nat, i = x := ⟨i.toNat, by omega⟩
      have hx : x < m := by omega
      have hA := Lib.hid (fun (u : World) (h : Below w.heap.size w u) => At_size (hK.step h) hs hx)
      have hRA := Lib.hid (fun (u : World) => refAt_size (w := u) hs hx)
      have HX : Hid (piN m (f1N m) (f2N m) x = piK m x) := Lib.hid rfl
      rw [HX.out] at hRA
      generalize piK m x = p at *
      generalize f1N m = f1 at *
      generalize f2N m = f2 at *
      have d1 : decide ((x : Int) < 0) = false := by simp
      have d2 : decide ((m : Int) ≤ (x : Int)) = false := by simp; omega
      clear h hs hi
      go_enter Tryd.func3, Tryd.ntmps3
      go_wp2_with fail
      refine hP.out.mono ?_
      rintro e w1 ⟨rfl, hb1⟩
      go_wp2_with fail
      refine (hR.out _).mono ?_
      rintro e w2 ⟨rfl, j, rfl⟩
      have hb2 := below_drewN hb1 j
      go_wp2_with fail
      refine (hA.out _ hb2).mono ?_
      rintro e w3 ⟨rfl, h3⟩
      have hb3 := hb2.trans (h3.mono hb2.size)
      clear h3 hb1 hb2
      go_wp2_with (go_at_call 13; refine num_any.mono ?_; rintro e wn ⟨rfl, he⟩; obtain rfl := he.symm)
      refine (hRA.out _).mono ?_
      rintro e w4 ⟨rfl, j2, rfl⟩
      have hb4 := below_drewN hb3 j2
      go_wp2_with (go_at_call 13; refine num_any.mono ?_; rintro e wn ⟨rfl, he⟩; obtain rfl := he.symm)
      refine (hW.out _ hb4).mono ?_
      rintro e w5 ⟨rfl, h5⟩
      have hb5 := hb4.trans (h5.mono hb4.size)
      go_wp2_with fail
      go_ret
      exact ⟨rfl, hb5⟩
  · have h := Bool.eq_false_iff.2 h
    rw [parS_no h] at hP hR
    have hA := Lib.hid (fun (u : World) (hb : Below w.heap.size w u) => At_no (i := i) (hK.step hb) h)
    clear h
    go_enter Tryd.func3, Tryd.ntmps3
    go_wp2_with fail
    refine hP.out.mono ?_
    rintro e w1 ⟨rfl, hb1⟩
    go_wp2_with fail
    refine (hR.out _).mono ?_
    rintro e w2 ⟨rfl, j, rfl⟩
    have hb2 := below_drewN hb1 j
    go_wp2_with fail
    refine (hA.out _ hb2).mono ?_
    rintro e w3 ⟨rfl, h3⟩
    have hb3 := hb2.trans (h3.mono hb2.size)
    clear h3 hb1 hb2
    go_wp2_with (go_at_call 13; refine num_any.mono ?_; rintro e wn ⟨rfl, he⟩; obtain rfl := he.symm)
    refine (hW.out _ hb3).mono ?_
    rintro e w4 ⟨rfl, h4⟩
    have hb4 := hb3.trans (h4.mono hb3.size)
    go_wp2_with fail
    go_ret
    exact ⟨rfl, hb4⟩
/-- same, of equal slices. -/
theorem same_true {A A' : Option Addr} {c c' B B' : Nat} {xs : List Int} {w : World} (hz : xs.length ≤ 1000000) (h : Rd .i64 w B A xs.length xs) (h' : Rd .i64 w B' A' xs.length xs) :
    Calls Tryd.prog 20 #[.slice A xs.length c, .slice A' xs.length c'] w fun e w' => e = .returned (.bool true) ∧ ∃ i, w' = w.drewN i :=
  (same_any (c := c) (c' := c') h h' (by omega) (by omega)).mono fun e w' hh => ⟨by rw [hh.1, decide_eq_true rfl], hh.2⟩
theorem invS_orderS (k : Int) : (invS k).2 = (orderS k).2 ∧ (orderS k).1.length ≤ 6144 ∧ (invS k).1.length ≤ 6144 := by
  by_cases h : isB k = true
  · obtain ⟨m, rfl, hs⟩ := isB_ex h
    rw [invS_size hs, orderS_size hs]
    exact ⟨rfl, by rw [ordI_length]; exact (size_le hs).2, by show (putL _ _ _ _).length ≤ _; rw [putL_length]; exact (size_le hs).2⟩
  · have h := Bool.eq_false_iff.2 h
    rw [invS_no h, orderS_no h]
    exact ⟨rfl, Nat.zero_le _, Nat.zero_le _⟩
set_option maxRecDepth 100000 in
set_option maxHeartbeats 4000000 in
theorem orders_walk {k : Int} {w : World} (hK : Kinds w) :
    Calls Tryd.prog 4 #[.int .i64 k] w fun e w' => e = .returned (.bool true) ∧ Below w.heap.size w w' := by
  have hW := Lib.hid (fun (u : World) (h : Below w.heap.size w u) => works_any (hK.step h))
  have hO := Lib.hid (Order_any (k := k) hK)
  have hV := Lib.hid (fun (u : World) (h : Below w.heap.size w u) => Inverse_any (k := k) (hK.step h))
  have hR := Lib.hid (fun (u : World) => refOrder_any (k := k) (w := u))
  have hQ := Lib.hid (fun (u : World) => refInverse_any (k := k) (w := u))
  obtain ⟨hno, l1, l2⟩ := invS_orderS k
  obtain ⟨⟨xs, a⟩, hx⟩ : ∃ p, orderS k = p := ⟨_, rfl⟩
  obtain ⟨⟨ys, b⟩, hy⟩ : ∃ p, invS k = p := ⟨_, rfl⟩
  rw [hx] at hO hR hno l1
  rw [hy] at hV hQ hno l2
  clear hx hy
  obtain rfl : b = a := hno
  change xs.length ≤ 6144 at l1
  change ys.length ≤ 6144 at l2
  go_enter Tryd.func4, Tryd.ntmps4
  go_wp2_with fail
  refine hO.out.mono ?_
  rintro e w1 ⟨A1, c1, rfl, o1, hb1⟩
  have R1 := Rd.of_own o1
  clear o1
  try dsimp only at R1 ⊢
  go_wp2_with fail
  refine (hV.out _ hb1).mono ?_
  rintro e w2 ⟨A2, c2, rfl, o2, h2⟩
  have hb2 := hb1.trans (h2.mono hb1.size)
  have R12 := R1.step h2
  have R2 := Rd.of_own o2
  clear o2 h2 hb1 R1
  try dsimp only at R2 ⊢
  go_wp2_with fail
  refine (hR.out _).mono ?_
  rintro e w3 ⟨A3, c3, rfl, o3, h3⟩
  have hb3 := hb2.trans (h3.mono hb2.size)
  have R13 := R12.step h3
  have R23 := R2.step h3
  have R3 := Rd.of_own o3
  clear o3 h3 hb2 R12 R2
  try dsimp only at R3 ⊢
  go_wp2_with fail
  refine (hQ.out _).mono ?_
  rintro e w4 ⟨A4, c4, rfl, R4, h4⟩
  have hb4 := hb3.trans (h4.mono hb3.size)
  have R14 := R13.step h4
  have R24 := R23.step h4
  have R34 := R3.step h4
  clear h4 hb3 R13 R23 R3
  try dsimp only at R4 ⊢
  have s1 := Lib.hid (same_true (c := c1) (c' := c3) (Nat.le_trans l1 (by decide)) R14 R34)
  go_wp2_with fail
  refine s1.out.mono ?_
  rintro e w5 ⟨rfl, j, rfl⟩
  have s2 := Lib.hid (same_true (c := c2) (c' := c4) (Nat.le_trans l2 (by decide)) (R24.drewN j) (R4.drewN j))
  have hb5 := below_drewN hb4 j
  clear s1 R14 R24 R34 R4 hb4
  go_wp2_with fail
  refine s2.out.mono ?_
  rintro e w6 ⟨rfl, j2, rfl⟩
  have hb6 := below_drewN hb5 j2
  rw [World.drewN_drewN] at hb6
  clear s2 hb5
  go_wp2_with (go_at_call 13; refine num_any.mono ?_; rintro e wn ⟨rfl, he⟩; obtain rfl := he.symm)
  refine (hW.out _ hb6).mono ?_
  rintro e w7 ⟨rfl, h7⟩
  have hb7 := hb6.trans (h7.mono hb6.size)
  go_wp2_with fail
  go_ret
  exact ⟨rfl, hb7⟩
set_option maxHeartbeats 4000000 in
theorem free_walk {k v : Int} {w : World} (hK : Kinds w) :
    Calls Tryd.prog 8 #[.int .i64 k, .int .i64 v] w fun e w' => e = .returned (.bool true) ∧ Below w.heap.size w w' := by
  have hW := Lib.hid (fun (u : World) (h : Below w.heap.size w u) => works_any (hK.step h))
  have hF := Lib.hid (Free_any (k := k) (v := v) hK)
  have hR := Lib.hid (fun (u : World) => refFree_any (k := k) (v := v) (w := u))
  rcases hc : freeS k v with _ | _
  · rw [hc] at hF hR
    rw [if_neg (by decide)] at hF hR
    clear hc
    go_enter Tryd.func8, Tryd.ntmps8
    go_wp2_with fail
    refine hF.out.mono ?_
    rintro e w1 ⟨rfl, hb1⟩
    go_wp2_with fail
    refine (hR.out _).mono ?_
    rintro e w2 ⟨rfl, h2⟩
    have hb2 := hb1.trans (h2.mono hb1.size)
    clear h2 hb1
    go_wp2_with (go_at_call 13; refine num_any.mono ?_; rintro e wn ⟨rfl, he⟩; obtain rfl := he.symm)
    refine (hW.out _ hb2).mono ?_
    rintro e w3 ⟨rfl, h3⟩
    have hb3 := hb2.trans (h3.mono hb2.size)
    go_wp2_with fail
    go_ret
    exact ⟨rfl, hb3⟩
  · rw [hc] at hF hR
    rw [if_pos rfl] at hF hR
    clear hc
    go_enter Tryd.func8, Tryd.ntmps8
    go_wp2_with fail
    refine hF.out.mono ?_
    rintro e w1 ⟨rfl, hb1⟩
    go_wp2_with fail
    refine (hR.out _).mono ?_
    rintro e w2 ⟨rfl, h2⟩
    have hb2 := hb1.trans (h2.mono hb1.size)
    clear h2 hb1
    go_wp2_with (go_at_call 13; refine num_any.mono ?_; rintro e wn ⟨rfl, he⟩; obtain rfl := he.symm)
    refine (hW.out _ hb2).mono ?_
    rintro e w3 ⟨rfl, h3⟩
    have hb3 := hb2.trans (h3.mono hb2.size)
    go_wp2_with fail
    go_ret
    exact ⟨rfl, hb3⟩
end Go.Proofs.YtfplklbicimhkaaDoor
