/-
  The walk of TrellisHolds.
-/
import Derived.Test.YtjehfdnkdfmmbaaL5
namespace Go.Proofs.Ytjehfdnkdfmmbaa
open Go.RowKit

set_option maxRecDepth 100000 in
set_option maxHeartbeats 8000000 in
theorem holds_walk {A B : Option Addr} {n m c d : Nat} {xs ys : List Int} {w : World} (hX : Rd .u8 w w.heap.size A n xs) (hbx : Byte xs) (hY : Rd .u8 w w.heap.size B m ys) (hby : Byte ys) :
    Calls Try.prog 9 #[.slice A n c, .slice B m d] w fun e w' => e = .returned (.bool true) ∧ Below w.heap.size w w' := by
  have hK := Lib.hid (fun (v : World) (h : Below w.heap.size w v) => works_to h)
  obtain ⟨k, hk⟩ : ∃ k, min n m = k := ⟨_, rfl⟩
  have hmin : (if m < n then (m : Int) else (n : Int)) = (k : Int) := by split <;> omega
  have hkn : k ≤ n ∧ k ≤ m := by omega
  by_cases hk5 : k ≤ 500
  · have hk1 : ¬ (500 : Int) < (k : Int) := by omega
    have hLX := Lib.hid (fun (v : World) (h : Rd .u8 v v.heap.size A n xs) => low_any (c := c) (n := k) h hbx (by omega) (by omega))
    have hLY := Lib.hid (fun (v : World) (h : Rd .u8 v v.heap.size B m ys) => low_any (c := d) (n := k) h hby (by omega) (by omega))
    have bx := lowL_bits xs k
    have bY := lowL_bits ys k
    have lx := lowL_length xs k
    have ly := lowL_length ys k
    generalize lowL xs k = x at *
    generalize lowL ys k = y at *
    have HX := Lib.hid hX
    have HY := Lib.hid hY
    have BX := Lib.hid bx
    have BY := Lib.hid bY
    have hWX := Lib.hid (fun (v : World) (A : Option Addr) (c : Nat) (h : Rd .u8 v v.heap.size A k x) => word_low (c := c) h bx (by omega))
    have hWY := Lib.hid (fun (v : World) (A : Option Addr) (c : Nat) (h : Rd .u8 v v.heap.size A k y) => word_low (c := c) h bY (by omega))
    have bWx := Lib.hid (wordI_bits bx)
    have bWy := Lib.hid (wordI_bits bY)
    obtain ⟨N, hN⟩ : ∃ N, 2 * k + 6 = N := ⟨_, rfl⟩
    have hD : Hid (x ≠ y → 6 ≤ diffC (wordI x) (wordI y) N) := Lib.hid (fun h => by
      have := dist_int bx bY (lx.trans ly.symm) h
      rw [lx, hN] at this
      exact this)
    have hD0 : Hid (x = y → diffC (wordI x) (wordI y) N = 0) := Lib.hid (fun h => by rw [h]; exact diffC_self _ _)
    have hN2 : ((N : Int) != 2 * (k : Int) + 6) = false := by simp; omega
    have hN5 : N ≤ 1006 := by omega
    rw [hN] at hWX hWY
    generalize wordI x = p at *
    generalize wordI y = q at *
    clear hX hY bx bY lx ly hbx hby hk hN
    go_enter Try.func9, Try.ntmps9
    go_wp2_with fail
    refine (hLX.out w HX.out).mono ?_
    rintro e w1 ⟨g1, rfl, hO1, hb1⟩
    have X1 := Rd.of_own hO1
    have HY1 := HY.out.step hb1
    clear hO1 hLX HX HY
    go_wp2_with fail
    refine (hLY.out w1 HY1).mono ?_
    rintro e w2 ⟨g2, rfl, hO2, hb2⟩
    have Y2 := Lib.hid (Rd.of_own hO2)
    have X2 := Lib.hid (X1.step hb2)
    have B2 := Lib.hid (hb1.trans (hb2.mono hb1.size))
    clear X1 HY1 hO2 hb1 hb2 hLY
    go_wp2_with fail
    refine (hWX.out w2 _ _ X2.out).mono ?_
    rintro e w4 ⟨A4, c4, rfl, P4, hb4⟩
    have Y4 := Lib.hid (Y2.out.step hb4)
    have X4 := Lib.hid (X2.out.step hb4)
    have B4 := Lib.hid (B2.out.trans (hb4.mono B2.out.size))
    have P4 := Lib.hid P4
    clear hb4 X2 Y2 B2 hWX
    go_wp2_with fail
    refine (hWY.out w4 _ _ Y4.out).mono ?_
    rintro e w5 ⟨A5, c5, rfl, Q5, hb5⟩
    have P5 := Lib.hid (P4.out.step hb5)
    have X5 := Lib.hid (X4.out.step hb5)
    have Y5 := Lib.hid (Y4.out.step hb5)
    have B5 := Lib.hid (B4.out.trans (hb5.mono B4.out.size))
    have Q5 := Lib.hid Q5
    clear hb5 Y4 X4 B4 P4 hWY
    go_wp2_with (go_at_call 15; refine num_any.mono ?_; rintro e wn ⟨rfl, he⟩; obtain rfl := he.symm)
    go_loopw [12, 13] (fun a i W => ∃ j s t : Nat, j ≤ N ∧ s ≤ j ∧ a = .int .i64 (s : Int) ∧ i = .int .i64 (j : Int) ∧ Hid (diffC p q j = s) ∧ W = w5.drewN t) (fun _ i _ => N - (intOf i).toNat)
    case atStart => exact ⟨0, 0, 0, Nat.zero_le _, Nat.le_refl _, rfl, rfl, Lib.hid rfl, rfl⟩
    case round =>
      obtain ⟨i, s, t, hi, hs, rfl, rfl, hd, hW⟩ := hrel
      subst hW
      by_cases hlt : i < N
      · obtain ⟨b1, o1, rfl, _, hc1⟩ := P5.out.cells i hlt
        obtain ⟨b2, o2, rfl, _, hc2⟩ := Q5.out.cells i hlt
        have hyes := Lib.hid (fun h => diffC_yes (p := p) (q := q) (k := i) h)
        have hno := Lib.hid (fun h => diffC_no (p := p) (q := q) (k := i) h)
        generalize p[i]?.getD 0 = p0 at *
        generalize q[i]?.getD 0 = q0 at *
        have hd1 : (w5.drewN t).cell? ⟨b1, o1 + i, none⟩ = some (.int .u8 p0) := hc1
        have hd2 : (w5.drewN t).cell? ⟨b2, o2 + i, none⟩ = some (.int .u8 q0) := hc2
        have hi0 : (0 : Int) ≤ (i : Int) := by omega
        have hi1 : (i : Int) < (N : Int) := by omega
        by_cases hne : (p0 != q0) = true
        · have HD : Hid (diffC p q (i + 1) = s + 1) := Lib.hid (by rw [hyes.out hne, hd.out])
          clear hyes hno hd
          go_wp2_with fail
          go_quiet (fail)
          go_wp2_with fail
          go_roundw
          case rel => exact ⟨i + 1, s + 1, _, by omega, by omega, by go_num, by go_num, HD, by first | rfl | exact World.drewN_drewN _ _ _⟩
          case measure => simp [intOf]; omega
        · have hne := Bool.eq_false_iff.2 hne
          have HD : Hid (diffC p q (i + 1) = s) := Lib.hid (by rw [hno.out hne, hd.out])
          clear hyes hno hd
          go_wp2_with fail
          go_quiet (fail)
          go_wp2_with fail
          go_roundw
          case rel => exact ⟨i + 1, s, _, by omega, by omega, rfl, by go_num, HD, by first | rfl | exact World.drewN_drewN _ _ _⟩
          case measure => simp [intOf]; omega
      · obtain rfl : i = N := by omega
        have HK := Lib.hid (hK.out (w5.drewN t) (below_drewN B5.out _))
        have HS := Lib.hid (same_any (c := k) (c' := k) (X5.out.drewN t) (Y5.out.drewN t) BX.out.byte BY.out.byte)
        clear P5 Q5 B5 hK X5 Y5
        by_cases hxy : x = y
        · have h0 : s = 0 := by rw [← hd.out]; exact hD0.out hxy
          subst h0
          rw [decide_eq_true hxy] at HS
          clear hD hD0 hd hxy
          go_wp2_with fail
          refine HS.out.mono ?_
          rintro e w7 ⟨rfl, he⟩
          obtain rfl := he.symm
          go_wp2_with fail
          refine HK.out.mono ?_
          rintro e w8 ⟨rfl, hb8⟩
          clear HK HS
          go_wp2_with fail
          go_ret
          exact ⟨rfl, hb8⟩
        · have h6 : 6 ≤ s := by rw [← hd.out]; exact hD.out hxy
          have h6' : (6 : Int) ≤ (s : Int) := by omega
          rw [decide_eq_false hxy] at HS
          clear hD hD0 hd hxy
          go_wp2_with fail
          refine HS.out.mono ?_
          rintro e w7 ⟨rfl, he⟩
          obtain rfl := he.symm
          go_wp2_with fail
          refine HK.out.mono ?_
          rintro e w8 ⟨rfl, hb8⟩
          clear HK HS
          go_wp2_with fail
          go_ret
          exact ⟨rfl, hb8⟩
  · have hk1 : (500 : Int) < (k : Int) := by omega
    have HK := Lib.hid (hK.out w (Below.refl _ _))
    clear hX hY hbx hby hK hk hk5
    go_enter Try.func9, Try.ntmps9
    go_wp2_with fail
    refine HK.out.mono ?_
    rintro e w1 ⟨rfl, hb1⟩
    clear HK
    go_wp2_with fail
    go_ret
    exact ⟨rfl, hb1⟩
end Go.Proofs.Ytjehfdnkdfmmbaa
