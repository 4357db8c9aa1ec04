/-
  GoldLinear: the walk of the law.
-/
import Derived.Test.YtofcjcmbbkiaaaaL2
namespace Go.Proofs.Ytofcjcmbbkiaaaa
open Go.RowKit

theorem xor_le_one {a b : Nat} (ha : a ≤ 1) (hb : b ≤ 1) : bits .xor .u8 (a : Int) (b : Int) = (((a + b) % 2 : Nat) : Int) := by
  have h1 : a = 0 ∨ a = 1 := by omega
  have h2 : b = 0 ∨ b = 1 := by omega
  rcases h1 with rfl | rfl <;> rcases h2 with rfl | rfl <;> decide
theorem addL_gold {a b m : Nat} (ha : a < 2147483648) (hb : b < 2147483648) : addL (goldL a m) (goldL b m) = addL (goldL (a ^^^ b) m) (goldL 0 m) := by
  unfold addL
  rw [goldL_length, goldL_length]
  apply List.map_congr_left
  intro i hi
  have hi' : i < m := by simpa using hi
  rw [goldL_get hi', goldL_get hi', goldL_get hi', goldL_get hi']
  unfold goldI
  rw [xor_le_one (goldN_le _ _) (goldN_le _ _), xor_le_one (goldN_le _ _) (goldN_le _ _), gold_linear ha hb]
set_option maxRecDepth 100000 in
set_option maxHeartbeats 4000000 in
theorem linear_walk {x y n : Int} {w : World} (hx : 0 ≤ x ∧ x < 4294967296) (hy : 0 ≤ y ∧ y < 4294967296) :
    Calls Try.prog 10 #[.int .u32 x, .int .u32 y, .int .i64 n] w fun e w' => e = .returned (.bool true) ∧ Below w.heap.size w w' := by
  obtain ⟨a, ha, _⟩ := nat_of hx
  obtain ⟨b, hb, _⟩ := nat_of hy
  have hk := Lib.hid (fun (u : World) (h : Below w.heap.size w u) => (known_any (w := u)).mono (R' := fun e w' => e = .returned (.bool true) ∧ Below w.heap.size w w') (fun e w' he => ⟨he.1, h.trans (he.2.mono h.size)⟩))
  by_cases hok : (0 ≤ n ∧ n ≤ 1000) ∧ x < 2147483648 ∧ y < 2147483648
  · obtain ⟨⟨n0, n1⟩, q1, q2⟩ := hok
    obtain ⟨m, hmn⟩ : ∃ m : Nat, (m : Int) = n := ⟨n.toNat, by omega⟩
    have hxy : ((a ^^^ b : Nat) : Int) = bits .xor .u32 x y := by
      rw [ha, hb]
      exact (bits_xor_u .u32 rfl a b (by simp [IntKind.bits]; omega) (by simp [IntKind.bits]; omega)).symm
    have hx31 : a ^^^ b < 2147483648 := Nat.xor_lt_two_pow (n := 31) (by omega) (by omega)
    have h1 := Lib.hid (fun u => seq_got (v := a) (m := m) (w := u) (by omega) (by omega) ha.symm)
    have h2 := Lib.hid (fun u => seq_got (v := b) (m := m) (w := u) (by omega) (by omega) hb.symm)
    have h3 := Lib.hid (fun u => seq_got (v := a ^^^ b) (m := m) (w := u) hx31 (by omega) hxy)
    have h4 := Lib.hid (fun u => seq_got (v := 0) (m := m) (w := u) (vi := 0) (by omega) (by omega) rfl)
    have hadd := Lib.hid (addL_gold (a := a) (b := b) (m := m) (by omega) (by omega))
    rw [hmn] at h1 h2 h3 h4
    have hA := Lib.hid (fun (u : World) (A A' : Option Addr) (c c' : Nat) (xs ys : List Int) (h : Rd .u8 u u.heap.size A m xs) (h' : Rd .u8 u u.heap.size A' m ys) => add_any (c := c) (c' := c') h h' (by omega))
    have hS := Lib.hid (fun (u : World) (A A' : Option Addr) (c c' : Nat) (xs : List Int) (h : Rd .u8 u u.heap.size A m xs) (h' : Rd .u8 u u.heap.size A' m xs) => same_true (c := c) (c' := c') h h' (by omega))
    have hlen : ((m : Int) != n) = false := by simp; omega
    generalize goldL a m = r1 at *
    generalize goldL b m = r2 at *
    generalize goldL (a ^^^ b) m = r3 at *
    generalize goldL 0 m = r4 at *
    clear hx hy ha hb hmn hxy hx31
    go_enter Try.func10, Try.ntmps10
    go_wp2_with fail
    refine (h1.out _).mono ?_
    rintro e w1 ⟨A1, c1, rfl, hr1, hb1⟩
    clear h1
    go_wp2_with fail
    refine (h2.out _).mono ?_
    rintro e w2 ⟨A2, c2, rfl, hr2, hb2⟩
    replace hr1 := hr1.step hb2
    replace hb2 := hb1.trans (hb2.mono hb1.size)
    clear h2 hb1
    go_wp2_with fail
    refine (h3.out _).mono ?_
    rintro e w3 ⟨A3, c3, rfl, hr3, hb3⟩
    replace hr1 := hr1.step hb3
    replace hr2 := hr2.step hb3
    replace hb3 := hb2.trans (hb3.mono hb2.size)
    clear h3 hb2
    go_wp2_with fail
    refine (h4.out _).mono ?_
    rintro e w4 ⟨A4, c4, rfl, hr4, hb4⟩
    replace hr1 := hr1.step hb4
    replace hr2 := hr2.step hb4
    replace hr3 := hr3.step hb4
    replace hb4 := hb3.trans (hb4.mono hb3.size)
    clear h4 hb3
    go_wp2_with fail
    refine (hA.out _ _ _ c1 c2 _ _ hr1 hr2).mono ?_
    rintro e w5 ⟨⟨A5, c5, rfl, ho5⟩, hb5⟩
    have hr5 := Rd.of_own ho5
    replace hr3 := hr3.step hb5
    replace hr4 := hr4.step hb5
    replace hb5 := hb4.trans (hb5.mono hb4.size)
    clear ho5 hb4 hr1 hr2
    go_wp2_with fail
    refine (hA.out _ _ _ c3 c4 _ _ hr3 hr4).mono ?_
    rintro e w6 ⟨⟨A6, c6, rfl, ho6⟩, hb6⟩
    have hr6 := Rd.of_own ho6
    replace hr5 := hr5.step hb6
    replace hb6 := hb5.trans (hb6.mono hb5.size)
    rw [← hadd.out] at hr6
    clear ho6 hb5 hr3 hr4 hA
    go_wp2_with fail
    refine (hS.out _ _ _ c5 c6 _ hr5 hr6).mono ?_
    rintro e w7 ⟨rfl, hb7⟩
    replace hb7 := hb6.trans (hb7.mono hb6.size)
    clear hr5 hr6 hS hb6
    go_wp2_with fail
    refine (hk.out _ hb7).mono ?_
    rintro e w8 ⟨rfl, hb8⟩
    go_wp2_with fail
    go_ret
    exact ⟨rfl, hb8⟩
  · have hc : n < 0 ∨ (0 ≤ n ∧ 1000 < n) ∨ ((0 ≤ n ∧ n ≤ 1000) ∧ 2147483648 ≤ x) ∨ ((0 ≤ n ∧ n ≤ 1000) ∧ x < 2147483648 ∧ 2147483648 ≤ y) := by omega
    clear hok hx hy ha hb
    rcases hc with hc | ⟨hc0, hc⟩ | ⟨⟨hc0, hc1⟩, hc⟩ | ⟨⟨hc0, hc1⟩, hc2, hc⟩
    all_goals
      go_enter Try.func10, Try.ntmps10
      go_wp2_with fail
      refine (hk.out _ (Below.refl _ _)).mono ?_
      rintro e w8 ⟨rfl, hb8⟩
      go_wp2_with fail
      go_ret
      exact ⟨rfl, hb8⟩
end Go.Proofs.Ytofcjcmbbkiaaaa
