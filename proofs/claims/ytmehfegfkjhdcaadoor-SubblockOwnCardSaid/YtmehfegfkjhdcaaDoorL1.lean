/-
  The walks of SubblockOrders and SubblockColumns.
-/
import Derived.Test.YtmehfegfkjhdcaaDoorKn
import Derived.Test.YtmehfegfkjhdcaaDoorRg
namespace Go.Proofs.YtmehfegfkjhdcaaDoor
open Go.RowKit Go.Shelf

theorem orderS_le (d st : Int) : (orderS d st).1.length ≤ 6176 := by
  unfold orderS
  split
  · rename_i h
    rw [Bool.and_eq_true] at h
    obtain ⟨k, rfl, h1, h2⟩ := okD_nat h.1
    rw [Int.toNat_natCast]
    show (orderI k _).length ≤ 6176
    rw [orderI_length]
    have := rows_le h1 h2
    omega
  · exact Nat.zero_le _
set_option maxRecDepth 100000 in
set_option maxHeartbeats 1000000 in
theorem orders_walk {d st : Int} {w : World} (hK : Kinds w) :
    Calls Tryd.prog 3 #[.int .i64 d, .int .i64 st] w fun e w' => e = .returned (.bool true) ∧ Below w.heap.size w w' := by
  have hW := Lib.hid (fun (u : World) (h : Below w.heap.size w u) => known_any (hK.step h))
  have hO := Lib.hid (Order_any (d := d) (st := st) hK)
  have hR := Lib.hid (fun (u : World) => refOrder_any (d := d) (st := st) (w := u))
  have l1 := orderS_le d st
  obtain ⟨⟨xs, a⟩, hx⟩ : ∃ p, orderS d st = p := ⟨_, rfl⟩
  rw [hx] at hO hR l1
  clear hx
  change xs.length ≤ 6176 at l1
  go_enter Tryd.func3, Tryd.ntmps3
  go_wp2_with fail
  refine hO.out.mono ?_
  rintro e w1 ⟨A1, c1, rfl, o1, hb1⟩
  have R1 := Rd.of_own o1
  clear o1
  try dsimp only at R1 ⊢
  go_wp2_with fail
  refine (hR.out _).mono ?_
  rintro e w2 ⟨A2, c2, rfl, o2, h2⟩
  have hb2 := hb1.trans (h2.mono hb1.size)
  have R12 := R1.step h2
  have R2 := Rd.of_own o2
  clear o2 h2 hb1 R1
  try dsimp only at R2 ⊢
  have s1 := Lib.hid (sameI_true (c := c1) (c' := c2) R12 R2 (Nat.le_trans l1 (by decide)))
  go_wp2_with fail
  refine s1.out.mono ?_
  rintro e w3 ⟨rfl, h3⟩
  have hb3 := hb2.trans (h3.mono hb2.size)
  have hk := Lib.hid (hW.out _ hb3)
  clear s1 R12 R2 hb2 h3
  go_wp2_with fail
  refine hk.out.mono ?_
  rintro e w4 ⟨rfl, h4⟩
  have hb4 := hb3.trans (h4.mono hb3.size)
  clear hb3 hk h4
  go_wp2_with fail
  go_ret
  exact ⟨rfl, hb4⟩
theorem colI_inv (k : Int) : (colI k = -1) ∨ (0 ≤ colI k ∧ colI (colI k) = k) := by
  unfold colI
  by_cases h : (decide (0 ≤ k) && decide (k < 32)) = true
  · right
    rw [if_pos h]
    simp at h
    obtain ⟨j, rfl⟩ : ∃ j : Nat, k = (j : Int) := ⟨k.toNat, by omega⟩
    rw [Int.toNat_natCast, Int.toNat_natCast]
    have h1 := col_lt j
    rw [if_pos (by simp; omega), col_inv j (by omega)]
    exact ⟨by omega, rfl⟩
  · left
    rw [if_neg h]
set_option maxRecDepth 100000 in
set_option maxHeartbeats 1000000 in
theorem columns_walk {k d : Int} {w : World} (hK : Kinds w) :
    Calls Tryd.prog 5 #[.int .i64 k, .int .i64 d] w fun e w' => e = .returned (.bool true) ∧ Below w.heap.size w w' := by
  have hW := Lib.hid (fun (u : World) (h : Below w.heap.size w u) => known_any (hK.step h))
  have hC := Lib.hid (Column_any (k := k) hK)
  have hC2 := Lib.hid (fun (u : World) (h : Below w.heap.size w u) => Column_any (k := colI k) (hK.step h))
  have hRC := Lib.hid (fun (u : World) => refColumn_any (k := k) (w := u))
  have hRo := Lib.hid (fun (u : World) => Rows_any (d := d) (w := u))
  have hRR := Lib.hid (fun (u : World) => refRows_any (d := d) (w := u))
  have hinv := colI_inv k
  obtain ⟨c, hc⟩ : ∃ c, colI k = c := ⟨_, rfl⟩
  obtain ⟨r, hr⟩ : ∃ r, rowsI d = r := ⟨_, rfl⟩
  rw [hc] at hC hC2 hRC hinv
  rw [hr] at hRo hRR
  clear hc hr
  rcases hinv with rfl | ⟨h0, h1⟩
  · go_enter Tryd.func5, Tryd.ntmps5
    go_wp2_with fail
    refine hC.out.mono ?_
    rintro e w ⟨rfl, rfl⟩
    go_wp2_with fail
    refine (hRC.out _).mono ?_
    rintro e w1 ⟨rfl, hg⟩
    have hb := grown_below hg (Nat.le_refl _)
    go_wp2_with (first | (go_at_call 15; refine (hRo.out _).mono ?_; rintro e w1 ⟨rfl, rfl⟩) | (go_at_call 18; refine (hRR.out _).mono ?_; rintro e w1 ⟨rfl, rfl⟩) | (go_at_call 14; refine (hW.out _ hb).mono ?_; rintro e w4 ⟨rfl, h4⟩))
    go_ret
    exact ⟨rfl, hb.trans (h4.mono hb.size)⟩
  · rw [h1] at hC2
    have h2 : ¬ c < 0 := by omega
    clear h1
    go_enter Tryd.func5, Tryd.ntmps5
    go_wp2_with fail
    refine hC.out.mono ?_
    rintro e w ⟨rfl, rfl⟩
    go_wp2_with fail
    refine (hRC.out _).mono ?_
    rintro e w1 ⟨rfl, hg⟩
    have hb := grown_below hg (Nat.le_refl _)
    go_wp2_with (first | (go_at_call 15; refine (hRo.out _).mono ?_; rintro e w1 ⟨rfl, rfl⟩) | (go_at_call 18; refine (hRR.out _).mono ?_; rintro e w1 ⟨rfl, rfl⟩) | (go_at_call 16; refine (hC2.out _ hb).mono ?_; rintro e w1 ⟨rfl, rfl⟩) | (go_at_call 14; refine (hW.out _ hb).mono ?_; rintro e w4 ⟨rfl, h4⟩))
    go_ret
    exact ⟨rfl, hb.trans (h4.mono hb.size)⟩
end Go.Proofs.YtmehfegfkjhdcaaDoor
