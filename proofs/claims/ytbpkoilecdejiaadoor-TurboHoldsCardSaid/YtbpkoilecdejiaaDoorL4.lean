/-
  The walk of TurboLinear.
-/
import Derived.Test.YtbpkoilecdejiaaDoorL1
import Derived.Test.YtbpkoilecdejiaaDoorSz
import Derived.Test.YtbpkoilecdejiaaDoorTx
namespace Go.Proofs.YtbpkoilecdejiaaDoor
set_option maxRecDepth 100000
open Go.RowKit

theorem size_K (m : Nat) : IsSize (sizeK m) := by
  have h : ∀ r, r < 60 → IsSize (40 + 8 * r) := by decide +kernel
  exact h _ (Nat.mod_lt _ (by decide))
theorem sizeK_le (m : Nat) : sizeK m ≤ 512 := by
  unfold sizeK
  have := Nat.mod_lt m (show 0 < 60 by decide)
  omega
theorem xorV {xs ys : List Int} (hx : Bits xs) (hy : Bits ys) (i : Nat) : 0 ≤ xs[i]?.getD 0 ∧ xs[i]?.getD 0 ≤ 1 ∧ 0 ≤ ys[i]?.getD 0 ∧ ys[i]?.getD 0 ≤ 1 ∧ bits .xor .u8 (xs[i]?.getD 0) (ys[i]?.getD 0) = (xs[i]?.getD 0 + ys[i]?.getD 0) % 2 := by
  have a := bits_nonneg hx i
  have b := bits_nonneg hy i
  exact ⟨by omega, by omega, by omega, by omega, xor_bit a b⟩
/-- Encode of the bits of a block size. -/
theorem enc_low {A : Option Addr} {n c : Nat} {xs : List Int} {w : World} (hK : Kinds w) (hI : Rd .u8 w w.heap.size A n xs) (hx : Bits xs) (hs : IsSize n) :
    Calls Tryd.prog 11 #[.slice A n c] w fun e w' => ∃ A2 c2, e = .returned (.tuple #[.slice A2 (3 * (n + 4)) c2, .int .i64 0]) ∧ Rd .u8 w' w'.heap.size A2 (3 * (n + 4)) (tbI xs) ∧ 3 * (n + 4) ≤ c2 ∧ Below w.heap.size w w' := by
  have h := turboEncode_any (c := c) hK hI hx.byte (by have := size_le hs; omega)
  have hl := hI.len
  have e : tbS xs = (tbI xs, 0) := by
    unfold tbS
    rw [hl, isB_nat, decide_eq_true hs, hx.valid]
    rfl
  rw [e] at h
  refine h.mono ?_
  rintro e w' ⟨A2, c2, rfl, hO, hb⟩
  have hc := own_cap hO
  have R := Rd.of_own hO
  have hl2 : (tbI xs).length = 3 * (n + 4) := by rw [tbI_length, hl]
  simp only [hl2] at R hc ⊢
  exact ⟨A2, c2, rfl, R, hc, hb⟩
set_option maxHeartbeats 8000000 in
theorem linear_walk {A B : Option Addr} {n m c d z : Nat} {xs ys : List Int} {w : World} (hKi : Kinds w) (hX : Rd .u8 w w.heap.size A n xs) (hbx : Byte xs) (hY : Rd .u8 w w.heap.size B m ys) (hby : Byte ys) (hz : z ≤ 255) :
    Calls Tryd.prog 6 #[.slice A n c, .slice B m d, .int .u8 (z : Int)] w fun e w' => e = .returned (.bool true) ∧ Below w.heap.size w w' := by
  have hK := Lib.hid (fun (v : World) (h : Below w.heap.size w v) => works_to hKi h)
  by_cases hn : n ≤ 600
  by_cases hm : m ≤ 600
  · have hn1 : ¬ (600 : Int) < (n : Int) := by omega
    have hm1 : ¬ (600 : Int) < (m : Int) := by omega
    have hLX := Lib.hid (fun (v : World) (h : Rd .u8 v v.heap.size A n xs) => sized_any (c := c) h hbx (by omega) hz)
    have hLY := Lib.hid (fun (v : World) (h : Rd .u8 v v.heap.size B m ys) => sized_any (c := d) h hby (by omega) hz)
    have bx := sizedL_bits xs z
    have bY := sizedL_bits ys z
    have lx := sizedL_length xs z
    have ly := sizedL_length ys z
    have hsz := Lib.hid (size_K z)
    have hk5 := sizeK_le z
    generalize sizedL xs z = x at *
    generalize sizedL ys z = y at *
    generalize sizeK z = k at *
    have HX := Lib.hid hX
    have HY := Lib.hid hY
    have BX := Lib.hid bx
    have BY := Lib.hid bY
    have LX := Lib.hid lx
    have LY := Lib.hid ly
    have hmk := make_bytes k k (Nat.le_refl _) (by omega)
    have HKi := Lib.hid hKi
    clear hX hY bx bY lx ly hbx hby hKi
    go_enter Tryd.func6, Tryd.ntmps6
    go_wp2_with fail
    refine (hLX.out w HX.out).mono ?_
    rintro e w1 ⟨g1, rfl, hO1, hb1⟩
    have X1 := Rd.of_own hO1
    have HY1 := HY.out.step hb1
    clear hO1 hLX HX HY
    go_wp2_with fail
    refine (hLY.out w1 HY1).mono ?_
    rintro e w2 ⟨g2, rfl, hO2, hb2⟩
    have Y2 := Lib.hid (Rd.of_own hO2)
    have X2 := Lib.hid (X1.step hb2)
    have B2 := Lib.hid (hb1.trans (hb2.mono hb1.size))
    have HZ : Hid ((w2.alloc (.cells (madeCells #[.int .u8 0] k) 5)).ownsRow w2.heap.size 5 1 (.slice (some ⟨w2.heap.size, 0, none⟩) k k) k ((fillL (fun i => (x[i]?.getD 0 + y[i]?.getD 0) % 2) k 0).map (Value.int .u8)) ∧ Below w2.heap.size w2 (w2.alloc (.cells (madeCells #[.int .u8 0] k) 5))) := Lib.hid ⟨by
      rw [fillL_zero]; exact own_zeros (Nat.le_refl _) (by omega) (Nat.le_refl _), (Below.refl _ w2).alloc (Nat.le_refl _) _⟩
    clear X1 HY1 hO2 hb1 hb2 hLY
    go_wp2_with fail
    generalize w2.alloc (.cells (madeCells #[.int .u8 0] k) 5) = W0 at *
    go_loopw [10] (fun i W => ∃ j : Nat, j ≤ k ∧ i = .int .i64 (j : Int) ∧ Hid (W.ownsRow w2.heap.size 5 1 (.slice (some ⟨w2.heap.size, 0, none⟩) k k) k ((fillL (fun i => (x[i]?.getD 0 + y[i]?.getD 0) % 2) k j).map (Value.int .u8)) ∧ Below w2.heap.size w2 W)) (fun i _ => k - (intOf i).toNat)
    case atStart => exact ⟨0, Nat.zero_le _, rfl, HZ⟩
    case round =>
      clear HZ
      obtain ⟨j, hj, rfl, hH⟩ := hrel
      by_cases hlt : j < k
      · obtain ⟨b1, o1, e1, hl1, hc1⟩ := (X2.out.below hH.out.2).cells j hlt
        injection e1 with e1
        injection e1 with e1 e2
        subst e1 e2
        obtain ⟨b2, o2, e1, hl2, hc2⟩ := (Y2.out.below hH.out.2).cells j hlt
        injection e1 with e1
        injection e1 with e1 e2
        subst e1 e2
        obtain ⟨b3, o3, e1, _, hc3⟩ := (Rd.of_own hH.out.1).cells j hlt
        injection e1 with e1
        injection e1 with e1 e2
        subst e1 e2
        rw [Nat.zero_add] at hc1 hc2 hc3
        have hfr := hH.out.1.frozenAt j
        have hv := xorV BX.out BY.out j
        have hs := fillL_succ (fun i => (x[i]?.getD 0 + y[i]?.getD 0) % 2) k j
        have hst := (hH.out.1.stored j (.int .u8 ((x[j]?.getD 0 + y[j]?.getD 0) % 2))).1
        rw [← List.map_set, hs] at hst
        have hb2 := hH.out.2.setCell (p := ⟨w2.heap.size, j, none⟩) (Nat.le_refl _) (.int .u8 ((x[j]?.getD 0 + y[j]?.getD 0) % 2))
        have H2 := Lib.hid (And.intro hst hb2)
        obtain ⟨v1, v2, v3, v4, v5⟩ := hv
        generalize x[j]?.getD 0 = x0 at *
        generalize y[j]?.getD 0 = y0 at *
        have hz0 : 0 ≤ (x0 + y0) % 2 ∧ (x0 + y0) % 2 ≤ 1 := by omega
        generalize (x0 + y0) % 2 = z0 at *
        generalize (fillL (fun i => (x[i]?.getD 0 + y[i]?.getD 0) % 2) k j)[j]?.getD 0 = old at *
        have hj0 : (0 : Int) ≤ (j : Int) := by omega
        have hj1 : (j : Int) < (k : Int) := by omega
        clear hst hb2 hs hH hmk
        go_wp2_with fail
        go_still_tail 12, (by kernel_rfl)
        change wpList _ _ _ _ _ wr.drew
        go_wp2_with fail
        go_roundw
        case rel => exact ⟨j + 1, by omega, by go_num, Lib.hid ⟨H2.out.1, H2.out.2.drew⟩⟩
        case measure => simp [intOf]; omega
      · obtain rfl : j = k := by omega
        have h1 := hH.out.1
        rw [fillL_full, show (List.range j).map (fun i => (x[i]?.getD 0 + y[i]?.getD 0) % 2) = xorL x y by unfold xorL; rw [LX.out]] at h1
        have BZ := xorL_bits x y
        have HLI := Lib.hid (fun i hi => tb_lin_int (by rw [LX.out]; exact hsz.out) BX.out BY.out (LX.out.trans LY.out.symm) i hi)
        rw [LX.out] at HLI
        have hWX := Lib.hid (fun (v : World) (A : Option Addr) (c : Nat) (hB : Below w.heap.size w v) (h : Rd .u8 v v.heap.size A j x) => enc_low (c := c) (HKi.out.step hB) h BX.out hsz.out)
        have hWY := Lib.hid (fun (v : World) (A : Option Addr) (c : Nat) (hB : Below w.heap.size w v) (h : Rd .u8 v v.heap.size A j y) => enc_low (c := c) (HKi.out.step hB) h BY.out hsz.out)
        have hWZ := Lib.hid (fun (v : World) (A : Option Addr) (c : Nat) (hB : Below w.heap.size w v) (h : Rd .u8 v v.heap.size A j (xorL x y)) => enc_low (c := c) (HKi.out.step hB) h BZ hsz.out)
        have Z3 := Lib.hid (Rd.of_own h1)
        have X3 := Lib.hid (X2.out.step hH.out.2)
        have Y3 := Lib.hid (Y2.out.step hH.out.2)
        have B3 := Lib.hid (B2.out.trans (hH.out.2.mono B2.out.size))
        obtain ⟨N, hN⟩ : ∃ N, 3 * (j + 4) = N := ⟨_, rfl⟩
        have hN5 : N ≤ 1548 := by omega
        rw [hN] at hWX hWY hWZ HLI
        generalize tbI x = p at *
        generalize tbI y = q at *
        generalize tbI (xorL x y) = r at *
        generalize xorL x y = z at *
        clear hH h1 BZ X2 Y2 B2 hN hlt hj hmk
        go_wp2_with fail
        refine (hWX.out wr _ _ B3.out X3.out).mono ?_
        rintro e w4 ⟨A4, c4, rfl, P4, _, hb4⟩
        have Y4 := Lib.hid (Y3.out.step hb4)
        have Z4 := Lib.hid (Z3.out.step hb4)
        have B4 := Lib.hid (B3.out.trans (hb4.mono B3.out.size))
        have P4 := Lib.hid P4
        clear hb4 X3 Y3 Z3 B3 hWX
        go_wp2_with fail
        refine (hWY.out w4 _ _ B4.out Y4.out).mono ?_
        rintro e w5 ⟨A5, c5, rfl, Q5, _, hb5⟩
        have P5 := Lib.hid (P4.out.step hb5)
        have Z5 := Lib.hid (Z4.out.step hb5)
        have B5 := Lib.hid (B4.out.trans (hb5.mono B4.out.size))
        have Q5 := Lib.hid Q5
        clear hb5 Y4 Z4 B4 P4 hWY
        go_wp2_with fail
        refine (hWZ.out w5 _ _ B5.out Z5.out).mono ?_
        rintro e w6 ⟨A6, c6, rfl, R6, _, hb6⟩
        have P6 := Lib.hid (P5.out.step hb6)
        have Q6 := Lib.hid (Q5.out.step hb6)
        have B6 := Lib.hid (B5.out.trans (hb6.mono B5.out.size))
        have R6 := Lib.hid R6
        clear hb6 Z5 B5 P5 Q5 hWZ
        go_wp2_with (go_at_call 14; refine num_any.mono ?_; rintro e wn ⟨rfl, he⟩; obtain rfl := he.symm)
        go_loopw [17] (fun i W => ∃ j k : Nat, j ≤ N ∧ i = .int .i64 (j : Int) ∧ W = w6.drewN k) (fun i _ => N - (intOf i).toNat)
        case atStart => exact ⟨0, 0, Nat.zero_le _, rfl, rfl⟩
        case round =>
          obtain ⟨i, t, hi, rfl, hW⟩ := hrel
          subst hW
          by_cases hlt : i < N
          · obtain ⟨b1, o1, rfl, _, hc1⟩ := P6.out.cells i hlt
            obtain ⟨b2, o2, rfl, _, hc2⟩ := Q6.out.cells i hlt
            obtain ⟨b3, o3, rfl, _, hc3⟩ := R6.out.cells i hlt
            have hx := HLI.out i hlt
            generalize p[i]?.getD 0 = p0 at *
            generalize q[i]?.getD 0 = q0 at *
            generalize r[i]?.getD 0 = r0 at *
            have hd1 : (w6.drewN t).cell? ⟨b1, o1 + i, none⟩ = some (.int .u8 p0) := hc1
            have hd2 : (w6.drewN t).cell? ⟨b2, o2 + i, none⟩ = some (.int .u8 q0) := hc2
            have hd3 : (w6.drewN t).cell? ⟨b3, o3 + i, none⟩ = some (.int .u8 r0) := hc3
            have hi0 : (0 : Int) ≤ (i : Int) := by omega
            have hi1 : (i : Int) < (N : Int) := by omega
            go_wp2_with fail
            go_quiet (fail)
            go_wp2_with fail
            go_roundw
            case rel => exact ⟨i + 1, _, by omega, by go_num, by first | rfl | exact World.drewN_drewN _ _ _⟩
            case measure => simp [intOf]; omega
          · obtain rfl : i = N := by omega
            have HK := Lib.hid (hK.out (w6.drewN t) (below_drewN B6.out _))
            clear P6 Q6 R6 B6 hK
            go_wp2_with fail
            refine HK.out.mono ?_
            rintro e w8 ⟨rfl, hb8⟩
            clear HK
            go_wp2_with fail
            go_ret
            exact ⟨rfl, hb8⟩
  · have HK := Lib.hid (hK.out w (Below.refl _ _))
    have hn1 : ¬ (600 : Int) < (n : Int) := by omega
    have hm1 : (600 : Int) < (m : Int) := by omega
    clear hX hY hbx hby hK hKi
    go_enter Tryd.func6, Tryd.ntmps6
    go_wp2_with fail
    refine HK.out.mono ?_
    rintro e w1 ⟨rfl, hb1⟩
    clear HK
    go_wp2_with fail
    go_ret
    exact ⟨rfl, hb1⟩
  · have HK := Lib.hid (hK.out w (Below.refl _ _))
    have hn1 : (600 : Int) < (n : Int) := by omega
    clear hX hY hbx hby hK hKi
    go_enter Tryd.func6, Tryd.ntmps6
    go_wp2_with fail
    refine HK.out.mono ?_
    rintro e w1 ⟨rfl, hb1⟩
    clear HK
    go_wp2_with fail
    go_ret
    exact ⟨rfl, hb1⟩
end Go.Proofs.YtbpkoilecdejiaaDoor
