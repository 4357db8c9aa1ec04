/-
  The law CrcBack's walk.
-/
import Derived.Test.YtekldonfmfnmpaaDoorKn
namespace Go.Proofs.YtekldonfmfnmpaaDoor
open Go.RowKit

theorem Bits.app {xs ys : List Int} (hx : Bits xs) (hy : Bits ys) : Bits (xs ++ ys) := fun z hz => (List.mem_append.1 hz).elim (hx z) (hy z)
theorem checkS_attach {k : Int} {xs : List Int} (h : (genN k).2 ≠ 0) (hx : Bits xs) : checkS k (xs ++ crcI k xs) = (xs, 0) := by
  have hl : (xs ++ crcI k xs).length = xs.length + (genN k).2 := by rw [List.length_append, crcI_length]
  unfold checkS
  rw [if_neg h, bits_valid (hx.app (crcI_bits k xs)), if_neg (by decide), hl, if_neg (by omega), Nat.add_sub_cancel, List.take_left, List.drop_left, if_pos rfl]
theorem front_rd {w : World} {b off n m : Nat} {xs ys : List Int} (h : Rd .u8 w w.heap.size (some ⟨b, off, none⟩) n (xs ++ ys)) (hm : xs.length = m) (hmn : m ≤ n) : Rd .u8 w w.heap.size (some ⟨b, off, none⟩) m xs := by
  have h0 := Rd.cut h (lo := 0) (hi := m) (cap := n + 1) (Nat.zero_le _) hmn (by omega)
  rw [if_neg (by omega)] at h0
  simp only [List.drop_zero, Nat.sub_zero] at h0
  rw [← hm, List.take_left] at h0
  rw [← hm]
  simpa [Addr.add] using h0
set_option maxRecDepth 100000 in
set_option maxHeartbeats 2000000 in
theorem back_walk {k : Int} {A : Option Addr} {n c : Nat} {xs : List Int} {w : World} (hK : Kinds w) (hI : Rd .u8 w w.heap.size A n xs) (hx : Byte xs) :
    Calls Tryd.prog 5 #[.int .i64 k, .slice A n c] w fun e w' => e = .returned (.bool true) ∧ Below w.heap.size w w' := by
  have HKn := Lib.hid (fun (u : World) (h : Below w.heap.size w u) => known_any (hK.step h))
  by_cases h2 : 2000 < n
  · have hd : decide ((2000 : Int) < (n : Int)) = true := by simp; omega
    go_enter Tryd.func5, Tryd.ntmps5
    go_wp2_with fail
    refine (HKn.out _ (Below.refl _ _)).mono ?_
    rintro e w1 ⟨rfl, hb⟩
    go_wp2_with fail
    go_ret
    exact ⟨rfl, hb⟩
  · have hd : decide ((2000 : Int) < (n : Int)) = false := by simp; omega
    have hn2 : n ≤ 2000 := by omega
    have HL := Lib.hid (fun (u : World) (h : Below w.heap.size w u) => len_any (k := k) (hK.step h))
    by_cases h0 : (genN k).2 = 0
    · have HA := Lib.hid (attach_arg (A := A) (n := n) (c := c) hK h0)
      rw [h0] at HL
      clear h0 h2 hI hK
      go_enter Tryd.func5, Tryd.ntmps5
      go_wp2_with fail
      refine HA.out.mono ?_
      intro e w1 h1
      obtain ⟨A1, c1, rfl, ho1, hb1⟩ := h1.got (n := 0) rfl
      clear h1 ho1
      go_wp2_with fail
      refine (HL.out _ hb1).mono ?_
      rintro e w2 ⟨rfl, hb2⟩
      replace hb2 := hb1.trans (hb2.mono hb1.size)
      go_wp2_with fail
      refine (HKn.out _ hb2).mono ?_
      rintro e w3 ⟨rfl, hb3⟩
      replace hb3 := hb2.trans (hb3.mono hb2.size)
      go_wp2_with fail
      go_ret
      exact ⟨rfl, hb3⟩
    · have hz : ((((genN k).2 : Nat) : Int) == 0) = false := by simp; omega
      have hle := genN_le k
      by_cases hv : validB xs = true
      · have hbits := validB_bits hx hv
        have HA := Lib.hid (attach_ok (c := c) hK hI (by omega) h0 hv hbits)
        have hca := checkS_attach h0 hbits
        have hlr : (xs ++ crcI k xs).length = n + (genN k).2 := by rw [List.length_append, crcI_length, hI.len]
        have hby := (hbits.app (crcI_bits k xs)).byte
        have hL0 : 0 < (genN k).2 := by omega
        have HX := Lib.hid hI.len
        have HR := Lib.hid (fun (u : World) (h : Below w.heap.size w u) => hI.step h)
        have HC := Lib.hid (fun (u : World) (A1 : Option Addr) (c1 : Nat) (h : Below w.heap.size w u) (hr : Rd .u8 u u.heap.size A1 (n + (genN k).2) (xs ++ crcI k xs)) (hc : n + (genN k).2 ≤ c1) => check_any (k := k) (hK.step h) hr (by omega) hc hby)
        rw [hca] at HC
        have HLR := Lib.hid hlr
        clear h0 h2 hca hlr hby hbits hv hI hK
        generalize crcI k xs = d at *
        generalize (genN k).2 = L at *
        go_enter Tryd.func5, Tryd.ntmps5
        go_wp2_with fail
        refine HA.out.mono ?_
        intro e w1 h1
        obtain ⟨A1, c1, rfl, ho1, hb1⟩ := h1.got HLR.out
        obtain ⟨g, cap, hv1, hg1, hg2⟩ := ho1.form (by omega)
        injection hv1 with e1 _ e3
        subst e1 e3
        have hr1 := Rd.of_own ho1
        have hc1 := own_cap' ho1
        clear h1 ho1
        go_wp2_with fail
        refine (HC.out _ _ _ hb1 hr1 hc1).mono ?_
        intro e w2 h2
        obtain ⟨A2, c2, rfl, ho2, hb2⟩ := h2.got HX.out
        have hr2 := Rd.of_own ho2
        replace hr1 := hr1.step hb2
        replace hb2 := hb1.trans (hb2.mono hb1.size)
        clear h2 ho2 hb1 HC HA
        have HS := Lib.hid (same_true (c := c2) (c' := c) hr2 (HR.out _ hb2) (by omega))
        go_wp2_with fail
        refine HS.out.mono ?_
        rintro e w3 ⟨rfl, hb3⟩
        replace hr1 := hr1.step hb3
        replace hb3 := hb2.trans (hb3.mono hb2.size)
        clear HS hr2 hb2
        go_wp2_with fail
        refine (HL.out _ hb3).mono ?_
        rintro e w4 ⟨rfl, hb4⟩
        replace hr1 := hr1.step hb4
        replace hb4 := hb3.trans (hb4.mono hb3.size)
        clear hb3
        have hfr := front_rd hr1 HX.out (Nat.le_add_right _ _)
        have HS := Lib.hid (same_true (c := c1) (c' := c) hfr (HR.out _ hb4) (by omega))
        have hi0 : (0 : Int) ≤ (n : Int) := by omega
        have hi1 : (n : Int) ≤ (c1 : Int) := by omega
        have hi3 : n ≤ c1 := by omega
        clear hfr hr1
        go_wp2_with fail
        refine HS.out.mono ?_
        rintro e w5 ⟨rfl, hb5⟩
        replace hb5 := hb4.trans (hb5.mono hb4.size)
        clear hb4
        go_wp2_with fail
        refine (HKn.out _ hb5).mono ?_
        rintro e w6 ⟨rfl, hb6⟩
        replace hb6 := hb5.trans (hb6.mono hb5.size)
        clear hb5
        go_wp2_with fail
        go_ret
        exact ⟨rfl, hb6⟩
      · have hv' : validB xs = false := by simpa using hv
        have HV := Lib.hid hv'
        have HA := Lib.hid (attach_bit (c := c) hK hI (by omega) h0 hv')
        have HVal := Lib.hid (fun (u : World) (h : Below w.heap.size w u) => refValid_any (c := c) (hI.below h) (by omega))
        clear h0 h2 hI hK hv hv'
        generalize (genN k).2 = L at *
        go_enter Tryd.func5, Tryd.ntmps5
        go_wp2_with fail
        refine HA.out.mono ?_
        intro e w1 h1
        obtain ⟨A1, c1, rfl, ho1, hb1⟩ := h1.got (n := 0) rfl
        clear h1 ho1
        go_wp2_with fail
        refine (HL.out _ hb1).mono ?_
        rintro e w2 ⟨rfl, hb2⟩
        replace hb2 := hb1.trans (hb2.mono hb1.size)
        go_wp2_with fail
        refine (HVal.out _ hb2).mono ?_
        rintro e w3 ⟨rfl, rfl⟩
        rw [HV.out]
        go_wp2_with fail
        refine (HKn.out _ hb2).mono ?_
        rintro e w3 ⟨rfl, hb3⟩
        replace hb3 := hb2.trans (hb3.mono hb2.size)
        go_wp2_with fail
        go_ret
        exact ⟨rfl, hb3⟩
end Go.Proofs.YtekldonfmfnmpaaDoor
