/-
  The law CrcResidue's walk.
-/
import Derived.Test.YtekldonfmfnmpaaDoorL4
namespace Go.Proofs.YtekldonfmfnmpaaDoor
open Go.RowKit

theorem toI_zeros (n : Nat) : toI (zerosB n) = List.replicate n 0 := by unfold toI zerosB; simp [bI]
theorem toB_zeros (n : Nat) : toB (List.replicate n 0) = zerosB n := by unfold toB zerosB; simp
theorem bits_zeros (n : Nat) : Bits (List.replicate n (0 : Int)) := fun _ hx => .inl (List.eq_of_mem_replicate hx)
theorem crcI_residue (k : Int) (xs : List Int) : crcI k (xs ++ crcI k xs) = List.replicate (genN k).2 0 := by
  unfold crcI
  rw [toB_append, toB_toI, crcB_residue, genB_length, toI_zeros]
theorem crcI_lead (k : Int) (xs : List Int) (z : Nat) : crcI k (List.replicate z 0 ++ xs) = crcI k xs := by
  unfold crcI
  rw [toB_append, toB_zeros, crcB_zeros]
theorem computeS_good {k : Int} {xs : List Int} (h : (genN k).2 ≠ 0) (hx : Bits xs) : computeS k xs = (crcI k xs, 0) := by
  unfold computeS
  rw [if_neg h, bits_valid hx, if_neg (by decide)]
set_option maxRecDepth 100000 in
set_option maxHeartbeats 4000000 in
theorem residue_walk {k z : Int} {A : Option Addr} {n c : Nat} {xs : List Int} {w : World} (hK : Kinds w) (hI : Rd .u8 w w.heap.size A n xs) (hx : Byte xs) (hz : -9223372036854775808 ≤ z ∧ z ≤ 9223372036854775807) :
    Calls Tryd.prog 7 #[.int .i64 k, .slice A n c, .int .i64 z] w fun e w' => e = .returned (.bool true) ∧ Below w.heap.size w w' := by
  have HKn := Lib.hid (fun (u : World) (h : Below w.heap.size w u) => known_any (hK.step h))
  by_cases hin : n ≤ 2000 ∧ 0 ≤ z ∧ z ≤ 100
  · obtain ⟨h2, hz0, hz1⟩ := hin
    obtain ⟨y, rfl⟩ := Int.eq_ofNat_of_zero_le hz0
    have d1 : decide ((2000 : Int) < (n : Int)) = false := by simp; omega
    have d2 : decide ((y : Int) < 0) = false := by simp
    have d3 : decide ((100 : Int) < (y : Int)) = false := by simp; omega
    by_cases h0 : (genN k).2 = 0
    · have HA := Lib.hid (attach_arg (A := A) (n := n) (c := c) hK h0)
      clear h0 hI hK
      go_enter Tryd.func7, Tryd.ntmps7
      go_wp2_with fail
      refine HA.out.mono ?_
      intro e w1 h1
      obtain ⟨A1, c1, rfl, ho1, hb1⟩ := h1.got (n := 0) rfl
      clear h1 ho1
      go_wp2_with fail
      refine (HKn.out _ hb1).mono ?_
      rintro e w3 ⟨rfl, hb3⟩
      replace hb3 := hb1.trans (hb3.mono hb1.size)
      go_wp2_with fail
      go_ret
      exact ⟨rfl, hb3⟩
    · have hle := genN_le k
      by_cases hv : validB xs = true
      · have hbits := validB_bits hx hv
        have HA := Lib.hid (attach_ok (c := c) hK hI (by omega) h0 hv hbits)
        have HL := Lib.hid (fun (u : World) (h : Below w.heap.size w u) => len_any (k := k) (hK.step h))
        have hlr : (xs ++ crcI k xs).length = n + (genN k).2 := by rw [List.length_append, crcI_length, hI.len]
        have HLR := Lib.hid hlr
        have HRZ : Hid ((List.replicate (genN k).2 (0 : Int)).length = (genN k).2) := Lib.hid (by simp)
        have hcl := Lib.hid (crcI_length k xs)
        have HC1 := Lib.hid (fun (u : World) (A1 : Option Addr) (c1 : Nat) (h : Below w.heap.size w u) (hr : Rd .u8 u u.heap.size A1 (n + (genN k).2) (xs ++ crcI k xs)) => compute_any (k := k) (c := c1) (hK.step h) hr (by omega) (hbits.app (crcI_bits k xs)).byte)
        rw [computeS_good h0 (hbits.app (crcI_bits k xs)), crcI_residue] at HC1
        have HC2 := Lib.hid (fun (u : World) (h : Below w.heap.size w u) => compute_any (k := k) (c := c) (hK.step h) (hI.step h) (by omega) hx)
        rw [computeS_good h0 hbits] at HC2
        have HC3 := Lib.hid (fun (u : World) (A1 : Option Addr) (c1 : Nat) (h : Below w.heap.size w u) (hr : Rd .u8 u u.heap.size A1 (y + n) (List.replicate y 0 ++ xs)) => compute_any (k := k) (c := c1) (hK.step h) hr (by omega) ((bits_zeros y).app hbits).byte)
        rw [computeS_good h0 ((bits_zeros y).app hbits), crcI_lead] at HC3
        have HI := Lib.hid (fun (u : World) (h : Below w.heap.size w u) => hI.step h)
        have hmk1 := make_bytes y y (Nat.le_refl _) (by omega)
        have hmk2 := make_bytes (genN k).2 (genN k).2 (Nat.le_refl _) (by omega)
        clear h0 hv hbits hI hlr hK
        generalize crcI k xs = d at *
        generalize (genN k).2 = L at *
        go_enter Tryd.func7, Tryd.ntmps7
        go_wp2_with fail
        refine HA.out.mono ?_
        intro e w1 h1
        obtain ⟨A1, c1, rfl, ho1, hb1⟩ := h1.got HLR.out
        have hr1 := Rd.of_own ho1
        clear h1 ho1 HA
        go_wp2_with fail
        refine (HC1.out _ _ _ hb1 hr1).mono ?_
        intro e w2 h2
        obtain ⟨A2, c2, rfl, ho2, hb2⟩ := h2.got HRZ.out
        have hr2 := Rd.of_own ho2
        replace hb2 := hb1.trans (hb2.mono hb1.size)
        clear h2 ho2 hb1 hr1 HC1
        go_wp2_with fail
        refine (HC2.out _ hb2).mono ?_
        intro e w3 h3
        obtain ⟨A3, c3, rfl, ho3, hb3⟩ := h3.got hcl.out
        have hr3 := Rd.of_own ho3
        replace hr2 := hr2.step hb3
        replace hb3 := hb2.trans (hb3.mono hb2.size)
        clear h3 ho3 hb2 HC2
        have ho4 := own_zeros (w := w3) (B := w3.heap.size) (n := y) (m := y) (Nat.le_refl _) (by omega) (Nat.le_refl _)
        obtain ⟨A4, c4, w4, hrun, ho5, hb5⟩ := more_run (c' := c) ho4 (((HI.out _ hb3).alloc (Nat.le_refl _) (.cells (madeCells #[.int .u8 0] y) 5)).more (by simp)) (by omega) (by omega) (by simp)
        have hb6 := hb5 w3.heap.size w3 ((Below.refl _ w3).alloc (Nat.le_refl _) _) (Nat.le_refl _) (Nat.le_refl _)
        have hr5 := Rd.of_own ho5
        replace hr2 := hr2.step hb6
        replace hr3 := hr3.step hb6
        replace hb6 := hb3.trans (hb6.mono hb3.size)
        have HRun := Lib.hid hrun
        clear ho4 hrun ho5 hb5 hb3
        go_wp2_with (at_builtin; refine Lib.wpList_append_run _ rfl _ _ _ _ rfl _ _ rfl rfl _ _ HRun.out ?_)
        refine (HC3.out _ _ _ hb6 hr5).mono ?_
        intro e w5 h5
        obtain ⟨A5, c5, rfl, ho5, hb7⟩ := h5.got hcl.out
        have hr6 := Rd.of_own ho5
        replace hr2 := hr2.step hb7
        replace hr3 := hr3.step hb7
        replace hb7 := hb6.trans (hb7.mono hb6.size)
        clear h5 ho5 hb6 HC3 HRun hr5
        go_wp2_with fail
        refine (HL.out _ hb7).mono ?_
        rintro e w6 ⟨rfl, hb8⟩
        replace hr2 := hr2.step hb8
        replace hr3 := hr3.step hb8
        replace hr6 := hr6.step hb8
        replace hb8 := hb7.trans (hb8.mono hb7.size)
        have hz2 := Rd.of_own (own_zeros (w := w6) (B := w6.heap.size) (n := L) (m := L) (Nat.le_refl _) (by omega) (Nat.le_refl _))
        have hb9 := hb8.alloc hb8.size (.cells (madeCells #[.int .u8 0] L) 5)
        replace hr2 := hr2.alloc (Nat.le_refl _) (.cells (madeCells #[.int .u8 0] L) 5)
        replace hr3 := hr3.alloc (Nat.le_refl _) (.cells (madeCells #[.int .u8 0] L) 5)
        replace hr6 := hr6.alloc (Nat.le_refl _) (.cells (madeCells #[.int .u8 0] L) 5)
        have hs6 : w6.heap.size ≤ (w6.alloc (.cells (madeCells #[.int .u8 0] L) 5)).heap.size := by simp
        replace hr3 := hr3.more hs6
        replace hr6 := hr6.more hs6
        have HS := Lib.hid (same_true (c := c2) (c' := L) hr2 hz2 (by omega))
        clear hz2 hr2 hb7 hb8 hs6
        go_wp2_with fail
        refine HS.out.mono ?_
        rintro e w7 ⟨rfl, hb10⟩
        replace hr3 := hr3.step hb10
        replace hr6 := hr6.step hb10
        replace hb10 := hb9.trans (hb10.mono hb9.size)
        have HS2 := Lib.hid (same_true (c := c3) (c' := c5) hr3 hr6 (by omega))
        clear HS hb9 hr3 hr6
        go_wp2_with fail
        refine HS2.out.mono ?_
        rintro e w8 ⟨rfl, hb11⟩
        replace hb11 := hb10.trans (hb11.mono hb10.size)
        clear HS2 hb10
        go_wp2_with fail
        refine (HKn.out _ hb11).mono ?_
        rintro e w9 ⟨rfl, hb12⟩
        replace hb12 := hb11.trans (hb12.mono hb11.size)
        go_wp2_with fail
        go_ret
        exact ⟨rfl, hb12⟩
      · have hv' : validB xs = false := by simpa using hv
        have HA := Lib.hid (attach_bit (c := c) hK hI (by omega) h0 hv')
        clear h0 hI hK hv hv'
        go_enter Tryd.func7, Tryd.ntmps7
        go_wp2_with fail
        refine HA.out.mono ?_
        intro e w1 h1
        obtain ⟨A1, c1, rfl, ho1, hb1⟩ := h1.got (n := 0) rfl
        clear h1 ho1
        go_wp2_with fail
        refine (HKn.out _ hb1).mono ?_
        rintro e w3 ⟨rfl, hb3⟩
        replace hb3 := hb1.trans (hb3.mono hb1.size)
        go_wp2_with fail
        go_ret
        exact ⟨rfl, hb3⟩
  · by_cases h2 : 2000 < n
    · have d1 : decide ((2000 : Int) < (n : Int)) = true := by simp; omega
      go_enter Tryd.func7, Tryd.ntmps7
      go_wp2_with fail
      refine (HKn.out _ (Below.refl _ _)).mono ?_
      rintro e w1 ⟨rfl, hb⟩
      go_wp2_with fail
      go_ret
      exact ⟨rfl, hb⟩
    · have d1 : decide ((2000 : Int) < (n : Int)) = false := by simp; omega
      by_cases h3 : z < 0
      · have d2 : decide (z < 0) = true := by simp; omega
        go_enter Tryd.func7, Tryd.ntmps7
        go_wp2_with fail
        refine (HKn.out _ (Below.refl _ _)).mono ?_
        rintro e w1 ⟨rfl, hb⟩
        go_wp2_with fail
        go_ret
        exact ⟨rfl, hb⟩
      · have d2 : decide (z < 0) = false := by simp; omega
        have d3 : decide (100 < z) = true := by simp; omega
        go_enter Tryd.func7, Tryd.ntmps7
        go_wp2_with fail
        refine (HKn.out _ (Below.refl _ _)).mono ?_
        rintro e w1 ⟨rfl, hb⟩
        go_wp2_with fail
        go_ret
        exact ⟨rfl, hb⟩
end Go.Proofs.YtekldonfmfnmpaaDoor
